import Derived.Test.YtnjodhglbapnlaaGreatRows
import Derived.WalkKit
import Derived.WalkSpells
import Derived.WalkLawsBesides
import Derived.Deep.LoopGhost
import Derived.Deep.QuietTactic
import Derived.BigQuiet
import Derived.Laws.IdiomStrings
import Derived.Laws.BitsAllLaws
import Derived.Lib.Strings
import Derived.Lib.Hide
set_option maxRecDepth 100000
set_option maxHeartbeats 16000000
namespace Go.Proofs.YtnjodhglbapnlaaGreat
open Go.RowKit
def yag (a b : Nat) : Nat := (a + 18446744073709551616 - b) % 18446744073709551616
def yiw (a b : Nat) : Nat := (a + b) % 18446744073709551616
def inB (f t x : Nat) : Bool := (f == t) || decide (yag x f < yag t f)
def oneB (f t : Nat) : Bool := (t == 0) || decide (f < t)
def pF (f _ k : Nat) : Nat := if k = 0 then f else 0
def pT (f t k : Nat) : Nat := if k = 0 then (if oneB f t then t else 0) else t
def pN (f t : Nat) : Nat := if oneB f t then 1 else 2
def ybo (f t x : Nat) : Bool := decide (f ≤ x) && ((t == 0) || decide (x < t))
def yat (f t g u : Nat) : Bool := !inB f t g && !inB g u f
def ybw (f t g u : Nat) : Bool := (f == t) || (!(g == u) && (inB f t g && decide (yag u g ≤ yag t g)))
def ybx (t : Nat) : Nat := yag t 1
theorem ydn (a b : Nat) : yag a b < 18446744073709551616 := Nat.mod_lt _ (by omega)
theorem yaf {a b : Nat} (ha : a < 18446744073709551616) (hb : b < 18446744073709551616) : (b ≤ a ∧ yag a b = a - b) ∨ (a < b ∧ yag a b = a + 18446744073709551616 - b) := by
 unfold yag; omega
theorem yix {a b : Nat} (ha : a < 18446744073709551616) (hb : b < 18446744073709551616) : IntKind.u64.wrap ((a : Int) - (b : Int)) = ((yag a b : Nat) : Int) := by
 rw [IntKind.wrap_u64]; unfold yag; omega
theorem ycx {W w1 : World} (hb : Below W.heap.size W w1) : (∀ b o, b < W.heap.size → w1.cell? ⟨b, o, none⟩ = W.cell? ⟨b, o, none⟩) ∧ (∀ b o, b < W.heap.size → w1.frozen? ⟨b, o, none⟩ = W.frozen? ⟨b, o, none⟩) :=
 ⟨fun b o h => hb.cell (p := ⟨b, o, none⟩) h, fun b o h => hb.frozen (p := ⟨b, o, none⟩) h⟩
theorem yg6 {a b c : Nat} (ha : a < 18446744073709551616) (hb : b < 18446744073709551616) (hc : c < 18446744073709551616) : yag (yag a c) (yag b c) = yag a b := by
 have h1 := yaf ha hc
 have h2 := yaf hb hc
 have h3 := yaf (ydn a c) (ydn b c)
 have h4 := yaf ha hb
 omega
theorem yiy {a b c : Nat} (ha : a < 18446744073709551616) (hb : b < 18446744073709551616) (hc : c < 18446744073709551616) : (yag a c == yag b c) = (a == b) := by
 have h1 := yaf ha hc
 have h2 := yaf hb hc
 rw [Bool.eq_iff_iff, beq_iff_eq, beq_iff_eq]
 constructor
 ·intro h; omega
 ·intro h; omega
theorem yfe {f t x c : Nat} (hf : f < 18446744073709551616) (ht : t < 18446744073709551616) (hx : x < 18446744073709551616) (hc : c < 18446744073709551616) : inB (yag f c) (yag t c) (yag x c) = inB f t x := by
 unfold inB
 rw [yiy hf ht hc, yg6 hx hf hc, yg6 ht hf hc]
theorem yk2 {f t g u c : Nat} (hf : f < 18446744073709551616) (ht : t < 18446744073709551616) (hg : g < 18446744073709551616) (hu : u < 18446744073709551616) (hc : c < 18446744073709551616) :
  yat (yag f c) (yag t c) (yag g c) (yag u c) = yat f t g u := by
 unfold yat
 rw [yfe hf ht hg hc, yfe hg hu hf hc]
theorem yk3 {f t g u c : Nat} (hf : f < 18446744073709551616) (ht : t < 18446744073709551616) (hg : g < 18446744073709551616) (hu : u < 18446744073709551616) (hc : c < 18446744073709551616) :
  ybw (yag f c) (yag t c) (yag g c) (yag u c) = ybw f t g u := by
 unfold ybw
 rw [yfe hf ht hg hc, yiy hf ht hc, yiy hg hu hc, yg6 hu hg hc, yg6 ht hg hc]
theorem sub_self (a : Nat) (_ha : a < 18446744073709551616) : yag a a = 0 := by unfold yag; omega
theorem yg7 {a : Nat} (ha : a < 18446744073709551616) : yag a 0 = a := by unfold yag; omega
theorem yay {f t x : Nat} : inB f t x = true ↔ (f = t ∨ yag x f < yag t f) := by
 unfold inB; simp
theorem yff {t x : Nat} (ht : t < 18446744073709551616) (hx : x < 18446744073709551616) : inB 0 t x = true ↔ (t = 0 ∨ x < t) := by
 rw [yay, yg7 ht, yg7 hx]
 constructor <;> intro h <;> omega
theorem ydo (f t : Nat) (hf : f < 18446744073709551616) (ht : t < 18446744073709551616) : inB f t f = true := by
 rw [yay, sub_self f hf]
 have := yaf ht hf
 omega
theorem yf0 (f x : Nat) : inB f f x = true := by rw [yay]; exact .inl rfl
theorem yk4 {f t : Nat} (_h : f ≠ t) : inB f t t = false := by
 rw [← Bool.not_eq_true, yay]; omega
theorem ydc {b : Bool} (h : ¬ b = true) : b = false := by simpa using h
theorem ydd {f t g u : Nat} : yat f t g u = true ↔ ¬ inB f t g = true ∧ ¬ inB g u f = true := by
 unfold yat; simp
theorem within_iff {f t g u : Nat} : ybw f t g u = true ↔ (f = t ∨ (g ≠ u ∧ inB f t g = true ∧ yag u g ≤ yag t g)) := by
 unfold ybw; simp
theorem yf1 (f t g u : Nat) : yat f t g u = yat g u f t := Bool.and_comm _ _
theorem yf2 {f t g u x : Nat} (hf : f < 18446744073709551616) (ht : t < 18446744073709551616) (hg : g < 18446744073709551616) (hu : u < 18446744073709551616) (hx : x < 18446744073709551616)
  (h : yat f t g u = true) (h2 : inB f t x = true) : inB g u x = false := by
 apply ydc
 rw [← yfe hf ht hx hf, sub_self f hf] at h2
 rw [← yk2 hf ht hg hu hf, sub_self f hf] at h
 rw [← yfe hg hu hx hf]
 have a1 := ydn t f
 have a2 := ydn g f
 have a3 := ydn u f
 have a4 := ydn x f
 generalize yag t f = T at *
 generalize yag g f = G at *
 generalize yag u f = U at *
 generalize yag x f = X at *
 rw [yff a1 a4] at h2
 rw [ydd, yff a1 a2, yay] at h
 rw [yay]
 have c1 := yaf a3 a2
 have c2 := yaf (show 0 < 18446744073709551616 by omega) a2
 have c3 := yaf a4 a2
 omega
theorem yiz {f t x : Nat} (hf : f < 18446744073709551616) (ht : t < 18446744073709551616) (hx : x < 18446744073709551616) (hn : x ≠ f) (h : inB f t x = true) :
  yat f x x t = true ∧ ybw f t f x = true ∧ ybw f t x t = true := by
 rw [← yk2 hf hx hx ht hf, ← yk3 hf ht hf hx hf, ← yk3 hf ht hx ht hf, sub_self f hf]
 rw [← yfe hf ht hx hf, sub_self f hf] at h
 have hn' : yag x f ≠ 0 := by have := yaf hx hf; omega
 have a1 := ydn t f
 have a4 := ydn x f
 generalize yag t f = T at *
 generalize yag x f = X at *
 rw [yff a1 a4] at h
 rw [ydd, within_iff, within_iff, yff a4 a4, yay, yff a1 a4, yff a1 (by omega), yg7 a4, yg7 a1]
 have c1 := yaf a1 a4
 have c2 := yaf (show 0 < 18446744073709551616 by omega) a4
 refine ⟨⟨?_, ?_⟩, ?_, ?_⟩ <;> omega
theorem yg8 (a b : Nat) : ((a : Int) == (b : Int)) = (a == b) := by
 rw [Bool.eq_iff_iff, beq_iff_eq, beq_iff_eq]; omega
theorem ydp (w : World) (o1 o2 : Obj) : Below w.heap.size w ((w.alloc o1).alloc o2) := ((Below.refl _ _).alloc (Nat.le_refl _) o1).alloc (by simp) o2
theorem yf3 (f t x : Nat) (w : World) (hf : f < 18446744073709551616) (ht : t < 18446744073709551616) (hx : x < 18446744073709551616) :
  Calls Tryz.prog 102 #[.agg #[.int .u64 f, .int .u64 t], .int .u64 x] w fun e w' => e = .returned (.bool (inB f t x)) ∧ Below w.heap.size w w' := by
 have e1 := yix hx hf
 have e2 := yix ht hf
 clear hf ht hx
 by_cases h : f = t
 ·have b1 : ((f : Int) == (t : Int)) = true := by rw [beq_iff_eq]; omega
  have e : inB f t x = true := by simp [inB, h]
  rw [e]
  clear h e e1 e2
  go_enter Tryz.func102, Tryz.ntmps102
  go_wp2
  go_ret
  exact ⟨rfl, (Below.refl _ _).alloc (Nat.le_refl _) _⟩
 ·have b1 : ((f : Int) == (t : Int)) = false := by rw [beq_eq_false_iff_ne]; omega
  have e : inB f t x = decide (yag x f < yag t f) := by simp [inB, h]
  rw [e]
  clear h e
  generalize yag x f = a at *
  generalize yag t f = b at *
  go_enter Tryz.func102, Tryz.ntmps102
  go_wp2
  go_ret
  exact ⟨rfl, (Below.refl _ _).alloc (Nat.le_refl _) _⟩
theorem yg9 (f t : Nat) (w : World) :
  Calls Tryz.prog 108 #[.agg #[.int .u64 f, .int .u64 t]] w fun e w' => e = .returned (.bool (f == t)) ∧ Below w.heap.size w w' := by
 have b1 := yg8 f t
 generalize (f == t) = b at *
 go_enter Tryz.func108, Tryz.ntmps108
 go_wp2
 go_ret
 exact ⟨rfl, (Below.refl _ _).alloc (Nat.le_refl _) _⟩
theorem yk5 (f t : Nat) (w : World) (ht : t < 18446744073709551616) :
  Calls Tryz.prog 110 #[.agg #[.int .u64 f, .int .u64 t]] w fun e w' => e = .returned (.int .u64 (ybx t : Nat)) ∧ Below w.heap.size w w' := by
 have e2 : IntKind.u64.wrap ((t : Int) - 1) = ((yag t 1 : Nat) : Int) := yix ht (show 1 < 18446744073709551616 by omega)
 clear ht
 unfold ybx
 generalize yag t 1 = b at *
 go_enter Tryz.func110, Tryz.ntmps110
 go_wp2
 go_ret
 exact ⟨rfl, (Below.refl _ _).alloc (Nat.le_refl _) _⟩
theorem yp1 (f t g u : Nat) (w : World) (hf : f < 18446744073709551616) (ht : t < 18446744073709551616) (hg : g < 18446744073709551616) (hu : u < 18446744073709551616) :
  Calls Tryz.prog 176 #[.agg #[.int .u64 f, .int .u64 t], .agg #[.int .u64 g, .int .u64 u]] w fun e w' => e = .returned (.bool (yat f t g u)) ∧ Below w.heap.size w w' := by
 have C1 := Lib.hid fun W => yf3 f t g W hf ht hg
 have C2 := Lib.hid fun W => yf3 g u f W hg hu hf
 clear hf ht hg hu
 unfold yat
 generalize inB f t g = p at *
 generalize inB g u f = q at *
 go_enter Tryz.func176, Tryz.ntmps176
 cases p
 all_goals
  go_wp2_with (first
   | (go_at_call 102; ((with_reducible refine (C1.out _).mono ?_); rintro e w1 ⟨rfl, hb1⟩; obtain ⟨hc1, hf1⟩ := ycx hb1))
   | (go_at_call 102; ((with_reducible refine (C2.out _).mono ?_); rintro e w2 ⟨rfl, hb2⟩)))
 ·go_ret
  exact ⟨by simp, (ydp w _ _).trans ((hb1.mono (by simp; omega)).trans (hb2.mono (by have := hb1.size; simp at this; omega)))⟩
 ·go_ret
  exact ⟨by simp, (ydp w _ _).trans (hb1.mono (by simp; omega))⟩
def yi0 (w w' : World) (f t : Nat) (e : Ending) : Prop :=
 ∃ g, w.heap.size ≤ g ∧ g < w'.heap.size ∧ e = .returned (.slice (some ⟨g, 0, none⟩) (pN f t) (pN f t)) ∧ (∀ k, k < pN f t → w'.cell? ⟨g, k * 2, none⟩ = some (.int .u64 (pF f t k : Nat)) ∧ w'.cell? ⟨g, k * 2 + 1, none⟩ = some (.int .u64 (pT f t k : Nat))) ∧ Below w.heap.size w w'
theorem yk6 {w : World} {f t : Nat} {o : Obj} (h : oneB f t = true) :
  yi0 w ((w.alloc o).alloc (.cells #[.int .u64 (f : Nat), .int .u64 (t : Nat)] 25)) f t (.returned (.slice (some ⟨w.heap.size + 1, 0, none⟩) 1 1)) := by
 have hn : pN f t = 1 := by simp [pN, h]
 refine ⟨w.heap.size + 1, by omega, by simp, by rw [hn], fun k hk => ?_, ydp w _ _⟩
 obtain rfl : k = 0 := by omega
 have h1 : pF f t 0 = f := by simp [pF]
 have h2 : pT f t 0 = t := by simp [pT, h]
 rw [h1, h2]
 constructor <;> go_simp
theorem yp2 {w : World} {f t : Nat} {o : Obj} (h : oneB f t = false) :
  yi0 w ((w.alloc o).alloc (.cells #[.int .u64 (f : Nat), .int .u64 0, .int .u64 0, .int .u64 (t : Nat)] 25)) f t (.returned (.slice (some ⟨w.heap.size + 1, 0, none⟩) 2 2)) := by
 have hn : pN f t = 2 := by simp [pN, h]
 refine ⟨w.heap.size + 1, by omega, by simp, by rw [hn], fun k hk => ?_, ydp w _ _⟩
 have h1 : pF f t 0 = f := by simp [pF]
 have h2 : pT f t 0 = 0 := by simp [pT, h]
 have h3 : pF f t 1 = 0 := by simp [pF]
 have h4 : pT f t 1 = t := by simp [pT]
 obtain rfl | rfl : k = 0 ∨ k = 1 := by omega
 ·rw [h1, h2]
  constructor <;> go_simp <;> rfl
 ·rw [h3, h4]
  constructor <;> go_simp <;> rfl
theorem yha (f t : Nat) (w : World) :
  Calls Tryz.prog 109 #[.agg #[.int .u64 f, .int .u64 t]] w fun e w' => yi0 w w' f t e := by
 by_cases h0 : t = 0
 ·have HO := Lib.hid (show oneB f t = true by simp [oneB, h0])
  have b1 : ((t : Int) == 0) = true := by rw [beq_iff_eq]; omega
  clear h0
  go_enter Tryz.func109, Tryz.ntmps109
  go_wp2
  go_ret
  exact yk6 HO.out
 ·have b1 : ((t : Int) == 0) = false := by rw [beq_eq_false_iff_ne]; omega
  by_cases h1 : f < t
  ·have HO := Lib.hid (show oneB f t = true by simp [oneB, h1])
   have b2 : decide (f < t) = true := by simp; omega
   clear h0 h1
   go_enter Tryz.func109, Tryz.ntmps109
   go_wp2
   go_ret
   exact yk6 HO.out
  ·have HO := Lib.hid (show oneB f t = false by simp [oneB, h1, h0])
   have b2 : decide (f < t) = false := by simp; omega
   clear h0 h1
   go_enter Tryz.func109, Tryz.ntmps109
   go_wp2
   go_ret
   exact yp2 HO.out
def yde (f t x k : Nat) : Bool := (List.range (pN f t - k)).any fun i => ybo (pF f t (k + i)) (pT f t (k + i)) x
theorem yi1 (f t x : Nat) : yde f t x (pN f t) = false := by simp [yde]
theorem yf4 (f t x k : Nat) (h : k < pN f t) : yde f t x k = (ybo (pF f t k) (pT f t k) x || yde f t x (k + 1)) := by
 unfold yde
 obtain ⟨m, hm⟩ : ∃ m, pN f t - k = m + 1 := ⟨pN f t - k - 1, by omega⟩
 rw [hm, show pN f t - (k + 1) = m by omega, List.range_succ_eq_map, List.any_cons, List.any_map]
 congr 2
 funext i
 simp only [Function.comp]
 rw [show k + (i + 1) = k + 1 + i by omega]
theorem yp3 (f t x : Nat) (hf : f < 18446744073709551616) (ht : t < 18446744073709551616) (hx : x < 18446744073709551616) : yde f t x 0 = inB f t x := by
 by_cases h : oneB f t = true
 ·have hn : pN f t = 1 := by simp [pN, h]
  rw [yf4 _ _ _ _ (by omega), show (0 + 1) = pN f t by omega, yi1]
  simp only [pF, pT, h, if_true, Bool.or_false, ybo, inB]
  simp only [oneB, Bool.or_eq_true, beq_iff_eq, decide_eq_true_eq] at h
  rw [Bool.eq_iff_iff]
  simp only [Bool.and_eq_true, Bool.or_eq_true, beq_iff_eq, decide_eq_true_eq]
  have c1 := yaf hx hf
  have c2 := yaf ht hf
  generalize yag x f = p at *
  generalize yag t f = q at *
  constructor
  ·intro g; omega
  ·intro g; omega
 ·have h : oneB f t = false := by simpa using h
  have hn : pN f t = 2 := by simp [pN, h]
  rw [yf4 _ _ _ _ (by omega), yf4 _ _ _ _ (by omega), show (0 + 1 + 1) = pN f t by omega, yi1]
  simp [pF, pT, h, ybo, inB]
  simp only [oneB, Bool.or_eq_false_iff, beq_eq_false_iff_ne, decide_eq_false_iff_not] at h
  rw [Bool.eq_iff_iff]
  simp only [Bool.or_eq_true, beq_iff_eq, decide_eq_true_eq]
  have c1 := yaf hx hf
  have c2 := yaf ht hf
  generalize yag x f = p at *
  generalize yag t f = q at *
  constructor
  ·intro g; omega
  ·intro g; omega
theorem yhb (f t : Nat) : pN f t ≤ 2 := by unfold pN; split <;> omega
theorem yp4 {f t x k : Nat} (h : k < pN f t) (h2 : ybo (pF f t k) (pT f t k) x = true) : yde f t x k = true := by rw [yf4 _ _ _ _ h, h2]; rfl
theorem yp5 {f t x k : Nat} (h : k < pN f t) (h2 : ybo (pF f t k) (pT f t k) x = false) : yde f t x k = yde f t x (k + 1) := by rw [yf4 _ _ _ _ h, h2]; rfl
theorem yp6 (F T x : Nat) : (decide (x < F) = true ∧ ybo F T x = false) ∨ (decide (x < F) = false ∧ ((T : Int) == 0) = true ∧ ybo F T x = true) ∨
  (decide (x < F) = false ∧ ((T : Int) == 0) = false ∧ decide (x < T) = true ∧ ybo F T x = true) ∨ (decide (x < F) = false ∧ ((T : Int) == 0) = false ∧ decide (x < T) = false ∧ ybo F T x = false) := by
 have e : ((T : Int) == 0) = (T == 0) := yg8 T 0
 rw [e]
 by_cases h1 : x < F
 ·exact .inl ⟨by simp [h1], by simp [ybo]; omega⟩
 ·by_cases h2 : T = 0
  ·exact .inr (.inl ⟨by simp; omega, by simp [h2], by simp [ybo, h2]; omega⟩)
  ·by_cases h3 : x < T
   ·exact .inr (.inr (.inl ⟨by simp; omega, by simp [h2], by simp [h3], by simp [ybo, h3]; omega⟩))
   ·exact .inr (.inr (.inr ⟨by simp; omega, by simp [h2], by simp; omega, by simp [ybo]; omega⟩))
theorem ydz (f t x : Nat) (w : World) (hf : f < 18446744073709551616) (ht : t < 18446744073709551616) (hx : x < 18446744073709551616) :
  Calls Tryz.prog 113 #[.agg #[.int .u64 f, .int .u64 t], .int .u64 x] w fun e w' => e = .returned (.bool (inB f t x)) ∧ Below w.heap.size w w' := by
 have HA := Lib.hid (yp3 f t x hf ht hx)
 have hn := yhb f t
 generalize inB f t x = ans at *
 clear hf ht hx
 go_enter Tryz.func113, Tryz.ntmps113
 go_wp2
 go_step3
 go_wp2
 go_step3
 go_wp2_with (go_at_call 109; refine (yha f t _).mono ?_; rintro e w1 ⟨g, hg0, hg1, rfl, hcell, hb1⟩)
 have HC := Lib.hid hcell
 have HB := Lib.hid hb1
 have HG := Lib.hid hg0
 clear hcell hb1 hg0
 generalize hnn : pN f t = n at *
 have HN := Lib.hid hnn
 clear hnn
 go_loopg [5, 11] 3 (fun z s5 s11 wx => ∃ (k : Nat), k + z = 3 ∧ k ≤ n ∧ s5 = .bool false ∧ s11 = .int .i64 k ∧ Hid (yde f t x k = ans) ∧ Below w1.heap.size w1 wx)
 case atStart => exact ⟨0, by omega, by omega, rfl, rfl, HA, Below.refl _ _⟩
 case round =>
  obtain ⟨k, hkz, hkn, rfl, rfl, HK, hbk⟩ := hrel
  have hbz := hbk.size
  by_cases hk : k < n
  ·have b0 : decide (k < n) = true := by simp; omega
   obtain ⟨h1, h2⟩ := HC.out k (by omega)
   have hc1 : wr.cell? ⟨g, k * 2, none⟩ = some (.int .u64 (pF f t k : Nat)) := (hbk.cell (p := ⟨g, k * 2, none⟩) hg1).trans h1
   have hc2 : wr.cell? ⟨g, k * 2 + 1, none⟩ = some (.int .u64 (pT f t k : Nat)) := (hbk.cell (p := ⟨g, k * 2 + 1, none⟩) hg1).trans h2
   clear h1 h2
   have hcase := yp6 (pF f t k) (pT f t k) x
   have HY := Lib.hid fun h => yp4 (f := f) (t := t) (x := x) (k := k) (by have := HN.out; omega) h
   have HO := Lib.hid fun h => yp5 (f := f) (t := t) (x := x) (k := k) (by have := HN.out; omega) h
   generalize pF f t k = F at *
   generalize pT f t k = T at *
   have HBK := Lib.hid hbk
   clear hbk
   have HE := Lib.hid (((((Below.refl w.heap.size w).alloc (Nat.le_refl _) (.cells #[.int .u64 (f : Nat), .int .u64 (t : Nat)] 25)).trans (HB.out.mono (by simp))).trans (HBK.out.mono (by have := HB.out.size; simp at this; omega))).alloc (by have := HB.out.size; simp at this; omega) (.cells #[.int .u64 (F : Nat), .int .u64 (T : Nat)] 25))
   rcases hcase with ⟨d1, hp⟩ | ⟨d1, d2, hp⟩ | ⟨d1, d2, d3, hp⟩ | ⟨d1, d2, d3, hp⟩
   all_goals
    have HP := Lib.hid hp
    clear hp
   ·
    go_wp2
    go_roundg (gk - 1)
    case measure => omega
    case rel => exact ⟨k + 1, by omega, by omega, rfl, by go_num, (HO.out HP.out).symm.trans HK.out, HBK.out.alloc (Nat.le_trans (Nat.le_refl _) hbz) _⟩
   ·
    have e : ans = true := by rw [← HK.out]; exact HY.out HP.out
    have HR := Lib.hid e
    clear e HP HY HO HK
    go_wp2
    rw [Exit.noGoto_ret]
    go_ret
    exact ⟨by rw [HR.out]; rfl, HE.out⟩
   ·
    have e : ans = true := by rw [← HK.out]; exact HY.out HP.out
    have HR := Lib.hid e
    clear e HP HY HO HK
    go_wp2
    rw [Exit.noGoto_ret]
    go_ret
    exact ⟨by rw [HR.out]; rfl, HE.out⟩
   ·
    go_wp2
    go_roundg (gk - 1)
    case measure => omega
    case rel => exact ⟨k + 1, by omega, by omega, rfl, by go_num, (HO.out HP.out).symm.trans HK.out, HBK.out.alloc (Nat.le_trans (Nat.le_refl _) hbz) _⟩
  ·obtain rfl : k = n := by omega
   have e : ans = false := by rw [← HK.out, ← HN.out]; exact yi1 _ _ _
   have HR := Lib.hid e
   have b0 : decide (k < k) = false := by simp
   have HE := Lib.hid ((((Below.refl w.heap.size w).alloc (Nat.le_refl _) (.cells #[.int .u64 (f : Nat), .int .u64 (t : Nat)] 25)).trans (HB.out.mono (by simp))).trans (hbk.mono (by have := HB.out.size; simp at this; omega)))
   clear e HK hbk
   go_wp2
   rw [Exit.noGoto_ret]
   go_ret
   exact ⟨by rw [HR.out]; rfl, HE.out⟩
structure GP where
 f : Nat
 t : Nat
 n : Int
 g : Nat
structure GS where
 shut : Bool
 f : Nat
 t : Nat
 l : List GP
 k : Nat
abbrev G0 : GS := ⟨false, 0, 0, [], 0⟩
def GS.freeze (s : GS) (f t : Nat) : GS := if s.shut then s else ⟨true, f, t, s.l, s.k⟩
def GS.thaw (s : GS) : GS := ⟨false, 0, 0, s.l, s.k⟩
def GS.point (s : GS) (f t : Nat) (n : Int) : GS := ⟨s.shut, s.f, s.t, s.l ++ [⟨f, t, n, 0⟩], s.k⟩
def GS.frozen (s : GS) (x : Nat) : Bool := s.shut && inB s.f s.t x
def yao (l : List GP) (x : Nat) : Option Int := (l.reverse.find? fun p => inB p.f p.t x).map (·.n)
def yd0 (o : Option Int) : Value := .tuple #[.int .i64 (o.getD 0), .bool o.isSome]
theorem yp7 (l : List GP) (p : GP) (x : Nat) : yao (l ++ [p]) x = if inB p.f p.t x then some p.n else yao l x := by
 unfold yao
 rw [List.reverse_append, List.reverse_singleton, List.singleton_append, List.find?_cons]
 cases inB p.f p.t x <;> rfl
theorem yp8 (x : Nat) : yao [] x = none := rfl
def ycy (l : List UInt8) (k : Nat) : Nat := (l[k]?.getD 0).toNat
def accN (l : List UInt8) : Nat → Nat
 | 0 => 0
 | k + 1 => accN l k * 256 + ycy l k
def valN : Nat → List UInt8 → Nat
 | 0, _ => 0
 | _ + 1, [] => 0
 | n + 1, x :: xs => x.toNat * 256 ^ n + valN n xs
theorem yp9 (l : List UInt8) (k : Nat) : ycy l k < 256 := (l[k]?.getD 0).toNat_lt
theorem yk7 {l : List UInt8} {k : Nat} (h : k < l.length) : ycy l k = (l[k]).toNat := by
 simp [ycy, List.getElem?_eq_getElem h]
theorem yk8 {l : List UInt8} {k : Nat} (h : l.length ≤ k) : ycy l k = 0 := by
 simp [ycy, List.getElem?_eq_none h]
theorem yf5 (l : List UInt8) : ∀ k, accN l k < 256 ^ k
 | 0 => by simp [accN]
 | k + 1 => by
  have h := yf5 l k
  have hb := yp9 l k
  rw [accN, Nat.pow_succ]
  omega
theorem yk9 {l : List UInt8} {k : Nat} (h : l.length ≤ k) : ∀ j, accN l (k + j) = accN l k * 256 ^ j
 | 0 => by simp
 | j + 1 => by
  rw [← Nat.add_assoc, accN, yk9 h j, yk8 (by omega), Nat.pow_succ, Nat.mul_assoc, Nat.add_zero]
theorem yqa {l : List UInt8} {k : Nat} (h : l.length ≤ k) (h8 : k ≤ 8) : accN l k * 256 ^ (8 - k) = accN l 8 := by
 rw [← yk9 h]
 congr 1
 omega
theorem yla : ∀ k, accN [] k = 0
 | 0 => rfl
 | k + 1 => by simp [accN, yla k, ycy]
theorem ylb (x : UInt8) (xs : List UInt8) : ∀ k, accN (x :: xs) (k + 1) = x.toNat * 256 ^ k + accN xs k
 | 0 => by simp [accN, ycy]
 | k + 1 => by
  rw [accN, ylb x xs k, accN]
  have e : ycy (x :: xs) (k + 1) = ycy xs k := by simp [ycy]
  rw [e, Nat.add_mul, Nat.pow_succ, Nat.mul_assoc, Nat.add_assoc]
theorem yhc : ∀ (n : Nat) (l : List UInt8), accN l n = valN n l
 | 0, _ => by simp [accN, valN]
 | n + 1, [] => by rw [yla]; rfl
 | n + 1, x :: xs => by rw [ylb, yhc n xs, valN]
theorem ylc (n : Nat) (l : List UInt8) : valN n l < 256 ^ n := by rw [← yhc]; exact yf5 l n
theorem yi2 (n : Nat) : valN n [] = 0 := by cases n <;> rfl
theorem yqb {a b k : Nat} (hk : k < 8) (hb : b < 256) : a * 256 ^ (8 - k) ||| b * 2 ^ (8 * (7 - k)) = (a * 256 + b) * 256 ^ (7 - k) := by
 have e1 : 256 ^ (8 - k) = 2 ^ (8 * (8 - k)) := by rw [Nat.pow_mul]
 have e2 : 256 ^ (7 - k) = 2 ^ (8 * (7 - k)) := by rw [Nat.pow_mul]
 have e3 : 2 ^ (8 * (8 - k)) = 256 * 2 ^ (8 * (7 - k)) := by
  have : 8 * (8 - k) = 8 + 8 * (7 - k) := by omega
  rw [this, Nat.pow_add]
 have hlt : b * 2 ^ (8 * (7 - k)) < 2 ^ (8 * (8 - k)) := by
  rw [e3]
  exact Nat.mul_lt_mul_of_pos_right hb (Nat.two_pow_pos _)
 rw [e1, e2, Nat.mul_comm a, ← Nat.two_pow_add_eq_or_of_lt hlt, e3, Nat.add_mul]
 congr 1
 rw [Nat.mul_comm, ← Nat.mul_assoc]
theorem yfg (l : List UInt8) : Op.bytesLess l [] = false := by cases l <;> rfl
theorem yhd (x y : UInt8) (xs ys : List UInt8) : Op.bytesLess (x :: xs) (y :: ys) = (decide (x < y) || (x == y && Op.bytesLess xs ys)) := rfl
theorem yfh (x y : UInt8) (xs ys : List UInt8) : Op.bytesLess (x :: xs) (y :: ys) = true ↔ x.toNat < y.toNat ∨ (x = y ∧ Op.bytesLess xs ys = true) := by
 rw [yhd]
 simp [UInt8.lt_iff_toNat_lt]
theorem yld : ∀ l : List UInt8, Op.bytesLess l l = false
 | [] => rfl
 | x :: xs => by rw [yhd, yld xs]; simp
theorem yle : ∀ a b : List UInt8, Op.bytesLess a b = true → Op.bytesLess b a = false
 | _, [], h => by rw [yfg] at h; cases h
 | [], _ :: _, _ => rfl
 | x :: xs, y :: ys, h => by
  rw [yfh] at h
  rcases h with h | ⟨rfl, h⟩
  ·rw [yhd]
   have h1 : ¬ y < x := by rw [UInt8.lt_iff_toNat_lt]; omega
   have h2 : y ≠ x := by rintro rfl; omega
   simp [h1, h2]
  ·rw [yhd, yle xs ys h]; simp
theorem ylf : ∀ a b c : List UInt8, Op.bytesLess a b = true → Op.bytesLess b c = true → Op.bytesLess a c = true
 | _, [], _, h, _ => by rw [yfg] at h; cases h
 | _, _ :: _, [], _, h => by rw [yfg] at h; cases h
 | [], _ :: _, _ :: _, _, _ => rfl
 | x :: xs, y :: ys, z :: zs, h, k => by
  rw [yfh] at h k ⊢
  rcases h with h | ⟨rfl, h⟩
  ·rcases k with k | ⟨rfl, k⟩
   ·exact .inl (by omega)
   ·exact .inl h
  ·rcases k with k | ⟨rfl, k⟩
   ·exact .inl k
   ·exact .inr ⟨rfl, ylf xs ys zs h k⟩
theorem yi3 : ∀ a b : List UInt8, a ≠ b → Op.bytesLess a b = true ∨ Op.bytesLess b a = true
 | [], [], h => absurd rfl h
 | [], _ :: _, _ => .inl rfl
 | _ :: _, [], _ => .inr rfl
 | x :: xs, y :: ys, h => by
  rw [yfh, yfh]
  by_cases hxy : x = y
  ·subst hxy
   rcases yi3 xs ys (fun e => h (by rw [e])) with k | k
   ·exact .inl (.inr ⟨rfl, k⟩)
   ·exact .inr (.inr ⟨rfl, k⟩)
  ·have : x.toNat ≠ y.toNat := fun e => hxy (UInt8.toNat_inj.1 e)
   rcases Nat.lt_or_gt_of_ne this with k | k
   ·exact .inl (.inl k)
   ·exact .inr (.inl k)
theorem ylg : ∀ (n : Nat) (a b : List UInt8), Op.bytesLess a b = true → valN n a ≤ valN n b
 | 0, _, _, _ => by simp [valN]
 | n + 1, _, [], h => by rw [yfg] at h; cases h
 | n + 1, [], _ :: _, _ => by simp [valN]
 | n + 1, x :: xs, y :: ys, h => by
  rw [yfh] at h
  simp only [valN]
  rcases h with h | ⟨rfl, h⟩
  ·have h1 := ylc n xs
   have h2 : (x.toNat + 1) * 256 ^ n ≤ y.toNat * 256 ^ n := Nat.mul_le_mul_right _ h
   rw [Nat.add_mul] at h2
   omega
  ·have := ylg n xs ys h
   omega
theorem yi4 (n : Nat) (a b : List UInt8) (h : valN n a < valN n b) : Op.bytesLess a b = true := by
 by_cases e : a = b
 ·subst e; omega
 ·rcases yi3 a b e with k | k
  ·exact k
  ·have := ylg n b a k
   omega
def bare : List UInt8 → Bool
 | [] => true
 | [x] => x != 0
 | _ :: y :: ys => bare (y :: ys)
theorem yqc {x : UInt8} {xs : List UInt8} (h : bare (x :: xs) = true) : bare xs = true := by
 cases xs with
 | nil => rfl
 | cons y ys => exact h
theorem ylh : ∀ (n : Nat) (l : List UInt8), l.length ≤ n → l ≠ [] → bare l = true → 0 < valN n l
 | 0, [], _, h, _ => absurd rfl h
 | 0, _ :: _, h, _, _ => by simp at h
 | _ + 1, [], _, h, _ => absurd rfl h
 | n + 1, [x], _, _, hb => by
  have hx : x ≠ 0 := by simpa [bare] using hb
  have : 0 < x.toNat := Nat.pos_of_ne_zero fun e => hx (UInt8.toNat_inj.1 e)
  have h2 : 0 < 256 ^ n := Nat.pow_pos (by omega)
  have := Nat.mul_pos this h2
  simp only [valN]
  omega
 | n + 1, x :: y :: ys, hl, _, hb => by
  have := ylh n (y :: ys) (by simpa using hl) (by simp) hb
  simp only [valN]
  omega
theorem yhe : ∀ (n : Nat) (a f : List UInt8), f.length ≤ n → bare f = true → valN n f ≤ valN n a → Op.bytesLess a f = false
 | _, _, [], _, _, _ => yfg _
 | 0, _, _ :: _, h, _, _ => by simp at h
 | n + 1, [], y :: ys, hl, hb, hv => by
  have := ylh (n + 1) (y :: ys) hl (by simp) hb
  rw [yi2] at hv
  omega
 | n + 1, x :: xs, y :: ys, hl, hb, hv => by
  cases h : Op.bytesLess (x :: xs) (y :: ys) with
  | false => rfl
  | true =>
   exfalso
   rw [yfh] at h
   simp only [valN] at hv
   rcases h with h | ⟨rfl, h⟩
   ·have h1 := ylc n xs
    have h2 : (x.toNat + 1) * 256 ^ n ≤ y.toNat * 256 ^ n := Nat.mul_le_mul_right _ h
    rw [Nat.add_mul] at h2
    omega
   ·have := yhe n xs ys (by simpa using hl) (yqc hb) (by omega)
    rw [h] at this
    cases this
def ybk : Nat → Nat → List UInt8
 | 0, _ => []
 | n + 1, v => UInt8.ofNat (v / 256 ^ n) :: ybk n v
theorem yli : ∀ n v, (ybk n v).length = n
 | 0, _ => rfl
 | n + 1, v => by simp [ybk, yli n v]
theorem yi5 : ∀ n v, valN n (ybk n v) = v % 256 ^ n
 | 0, v => by simp [valN, Nat.mod_one]
 | n + 1, v => by
  simp only [ybk, valN, yi5 n v]
  have h : (UInt8.ofNat (v / 256 ^ n)).toNat = v / 256 ^ n % 256 := by simp
  rw [h, Nat.pow_succ, Nat.mod_mul]
  rw [Nat.mul_comm, Nat.add_comm]
def ybl : List UInt8 → List UInt8
 | [] => []
 | x :: xs => if ybl xs = [] ∧ x = 0 then [] else x :: ybl xs
theorem ylj : ∀ l, (ybl l).length ≤ l.length
 | [] => by simp [ybl]
 | x :: xs => by
  have := ylj xs
  simp only [ybl]
  split <;> simp
  omega
theorem ylk : ∀ l, bare (ybl l) = true
 | [] => rfl
 | x :: xs => by
  have ih := ylk xs
  simp only [ybl]
  split
  ·rfl
  ·rename_i h
   cases e : ybl xs with
   | nil =>
    have : x ≠ 0 := fun hx => h ⟨e, hx⟩
    simpa [bare] using this
   | cons y ys => rw [e] at ih; exact ih
theorem yi6 : ∀ n l, valN n (ybl l) = valN n l
 | 0, _ => rfl
 | _ + 1, [] => rfl
 | n + 1, x :: xs => by
  have ih := yi6 n xs
  simp only [ybl]
  split
  ·rename_i h
   obtain ⟨h1, rfl⟩ := h
   rw [h1, yi2] at ih
   simp [valN, ← ih]
  ·simp [valN, ih]
def yaz (x : Nat) : List UInt8 := ybl (ybk 8 x)
theorem yi7 (x : Nat) : (yaz x).length ≤ 8 := by
 have := ylj (ybk 8 x)
 rwa [yli] at this
theorem yd1 {x : Nat} (h : x < 256 ^ 8) : valN 8 (yaz x) = x := by
 rw [yaz, yi6, yi5, Nat.mod_eq_of_lt h]
theorem yi8 (x : Nat) : bare (yaz x) = true := ylk _
theorem yll : ∀ n v, v % 256 ^ n = 0 → ybl (ybk n v) = []
 | 0, _, _ => rfl
 | n + 1, v, h => by
  have h1 : v % 256 ^ n = 0 := by
   rw [Nat.pow_succ] at h
   have := Nat.mod_mul_right_mod v (256 ^ n) 256
   rw [h] at this
   simpa using this.symm
  have h2 : v / 256 ^ n % 256 = 0 := by
   rw [Nat.pow_succ, Nat.mod_mul, h1] at h
   have hp : 0 < 256 ^ n := Nat.pow_pos (by omega)
   rcases Nat.mul_eq_zero.1 (Nat.eq_zero_of_add_eq_zero_left h) with h | h
   ·omega
   ·exact h
  simp only [ybk, ybl]
  rw [if_pos ⟨yll n v h1, UInt8.toNat_inj.1 (by simp [h2])⟩]
theorem yqd (n v : Nat) (h : v % 256 ^ (n + 1) ≠ 0) : ybl (ybk (n + 1) v) = UInt8.ofNat (v / 256 ^ n) :: ybl (ybk n v) := by
 simp only [ybk, ybl]
 rw [if_neg]
 rintro ⟨h1, h2⟩
 apply h
 have h3 : v % 256 ^ n = 0 := by
  have := yi6 n (ybk n v)
  rw [h1, yi2, yi5] at this
  exact this.symm
 have h4 : v / 256 ^ n % 256 = 0 := by
  have := congrArg UInt8.toNat h2
  simpa using this
 rw [Nat.pow_succ, Nat.mod_mul, h3, h4]
 simp
def yf6 (b : UInt8) : Value := .int .u8 (b.toNat : Int)
def txt (l : List UInt8) : ByteArray := ⟨l.toArray⟩
theorem yi9 (l : List UInt8) : (txt l).toList = l := by rw [Lib.toList_data]; simp [txt]
theorem ylm (l : List UInt8) : (txt l).size = l.length := by show l.toArray.size = _; simp
theorem yhf (s : ByteArray) : txt s.data.toList = s := by cases s; simp [txt]
theorem yhg (s : ByteArray) : s.data.toList.length = s.size := rfl
theorem yqe {P : Program} {w : World} {base e : Nat} {A : Option Addr} {n c : Nat} {l : List UInt8} (src dst : TypeId)
  (hown : w.ownsRow base e 1 (.slice A n c) n (l.map yf6)) (hs : P.underlying src = some (.slice e)) (he : P.underlying e = some (.int .u8)) (hd : P.underlying dst = some .string) :
  (convert src dst (.slice A n c)).run P w = .ok (.string (txt l)) w := by
 have hn : l.length = n := by have := hown.1; simpa using this
 rcases A with _ | ad
 ·rcases hown.2 with ⟨h0, h1⟩ | ⟨g, cap, cur, h0, _⟩
  ·injection h0 with _ h2 h3
   subst h2 h3
   have : l = [] := List.eq_nil_of_length_eq_zero hn
   subst this
   rw [run_convert_bytes_string w src dst e none 0 0 hs he hd]
   rfl
  ·cases h0
 ·rcases hown.2 with ⟨h0, h1⟩ | ⟨g, cap, cur, h0, hg, hh, _⟩
  ·cases h0
  ·injection h0 with h1 h2 h3
   injection h1 with h1
   subst h1
   rw [← hn]
   refine run_convert_bytes_back w src dst e _ c l hs he hd (fun j hj => ?_)
   have hc := hown.cells (g := g) rfl j (yf6 l[j]) (by simp [List.getElem?_eq_getElem hj])
   exact hc
theorem yav {w : World} {base e size n : Nat} {v : Value} {xs : List Value} (h : w.ownsRow base e size v n xs) : ∃ A c, v = .slice A n c := by
 rcases h.2 with ⟨rfl, rfl⟩ | ⟨g, cap, cur, rfl, _⟩
 ·exact ⟨_, _, rfl⟩
 ·exact ⟨_, _, rfl⟩
theorem own_below {w w0 : World} {base e size n : Nat} {v : Value} {xs : List Value} (h : w.ownsRow base e size v n xs) (hb : Below base w0 w) (hs : base ≤ w.heap.size) {w' : World} (hg : w.grownBy w' v.ownBlock) : Below base w0 w' :=
 hb.grown hg hs fun k hk => (h.lt k hk).1
theorem yqf : ∃ i, Tryz.prog.info? 5 = some i ∧ i.zero = some (.int .u8 0) ∧ i.size = 1 ∧ i.bytes = 1 := by
 have h : (Tryz.prog.info? 5).map (fun i => (i.zero, i.size, i.bytes)) = some (some (.int .u8 0), 1, 1) := by kernel_rfl
 obtain ⟨i, hi, hx⟩ := Option.map_eq_some_iff.1 h
 simp only [Prod.mk.injEq] at hx
 exact ⟨i, hi, hx⟩
def yal (s : ByteArray) : Int := if s.size = 0 ∨ 16 < s.size then 3 else 0
def yas (s : ByteArray) : Int := if 16 < s.size then 4 else 0
def yac (s : ByteArray) : Nat := accN s.data.toList 8
theorem yhh (s : ByteArray) : yac s < 18446744073709551616 := yf5 _ 8
theorem yln (s : ByteArray) (w : World) (hs : s.size ≤ maxLen) :
  Calls Tryz.prog 133 #[.string s] w fun e w' => e = .returned (.int .i64 (yal s)) ∧ w = w' := by
 unfold maxLen at hs
 by_cases h0 : s.size = 0
 ·have e : yal s = 3 := by simp [yal, h0]
  rw [e]
  have b1 : ((s.size : Int) == 0) = true := by simp [h0]
  go_enter Tryz.func133, Tryz.ntmps133
  go_wp2
  all_goals (go_ret; exact ⟨rfl, rfl⟩)
 ·have b1 : ((s.size : Int) == 0) = false := by rw [beq_eq_false_iff_ne]; omega
  by_cases h1 : 16 < s.size
  ·have e : yal s = 3 := by simp [yal, h1]
   rw [e]
   go_enter Tryz.func133, Tryz.ntmps133
   go_wp2
   all_goals (go_ret; exact ⟨rfl, rfl⟩)
  ·have e : yal s = 0 := by simp [yal, h1, h0]
   rw [e]
   go_enter Tryz.func133, Tryz.ntmps133
   go_wp2
   all_goals (go_ret; exact ⟨rfl, rfl⟩)
theorem ylo (s : ByteArray) (w : World) (hs : s.size ≤ maxLen) :
  Calls Tryz.prog 136 #[.string s] w fun e w' => e = .returned (.int .i64 (yas s)) ∧ w = w' := by
 unfold maxLen at hs
 by_cases h1 : 16 < s.size
 ·have e : yas s = 4 := by simp [yas, h1]
  rw [e]
  go_enter Tryz.func136, Tryz.ntmps136
  go_wp2
  all_goals (go_ret; exact ⟨rfl, rfl⟩)
 ·have e : yas s = 0 := by simp [yas, h1]
  rw [e]
  go_enter Tryz.func136, Tryz.ntmps136
  go_wp2
  all_goals (go_ret; exact ⟨rfl, rfl⟩)
theorem yja (s : ByteArray) (w : World) (hs : s.size ≤ maxLen) :
  Calls Tryz.prog 62 #[.string s] w fun e w' => e = .returned (.int .i64 (yal s)) ∧ w = w' := by
 unfold maxLen at hs
 by_cases h0 : s.size = 0
 ·have e : yal s = 3 := by simp [yal, h0]
  rw [e]
  have b1 : decide ((s.size : Int) < 1) = true := by simp [h0]
  go_enter Tryz.func62, Tryz.ntmps62
  go_wp2
  all_goals (go_ret; exact ⟨rfl, rfl⟩)
 ·have b1 : decide ((s.size : Int) < 1) = false := by simp; omega
  by_cases h1 : 16 < s.size
  ·have e : yal s = 3 := by simp [yal, h1]
   rw [e]
   go_enter Tryz.func62, Tryz.ntmps62
   go_wp2
   all_goals (go_ret; exact ⟨rfl, rfl⟩)
  ·have e : yal s = 0 := by simp [yal, h1, h0]
   rw [e]
   go_enter Tryz.func62, Tryz.ntmps62
   go_wp2
   all_goals (go_ret; exact ⟨rfl, rfl⟩)
theorem yjb (s : ByteArray) (w : World) (hs : s.size ≤ maxLen) :
  Calls Tryz.prog 68 #[.string s] w fun e w' => e = .returned (.int .i64 (yas s)) ∧ w = w' := by
 unfold maxLen at hs
 by_cases h1 : 16 < s.size
 ·have e : yas s = 4 := by simp [yas, h1]
  rw [e]
  go_enter Tryz.func68, Tryz.ntmps68
  go_wp2
  all_goals (go_ret; exact ⟨rfl, rfl⟩)
 ·have e : yas s = 0 := by simp [yas, h1]
  rw [e]
  go_enter Tryz.func68, Tryz.ntmps68
  go_wp2
  all_goals (go_ret; exact ⟨rfl, rfl⟩)
theorem yfi (a b : ByteArray) (w : World) :
  Calls Tryz.prog 142 #[.string a, .string b] w fun e w' => e = .returned (.bool (Op.bytesLess a.toList b.toList)) ∧ w = w' := by
 go_enter Tryz.func142, Tryz.ntmps142
 go_wp2
 go_ret
 exact ⟨rfl, rfl⟩
def ydq (l : List UInt8) (k : Nat) : Nat := accN l k * 256 ^ (8 - k)
theorem yqg (l : List UInt8) {k : Nat} (h : k ≤ 8) : ydq l k < 18446744073709551616 := by
 have h1 := yf5 l k
 have h2 : 256 ^ k * 256 ^ (8 - k) = 18446744073709551616 := by rw [← Nat.pow_add, show k + (8 - k) = 8 by omega]
 rw [← h2]
 exact Nat.mul_lt_mul_of_pos_right h1 (Nat.pow_pos (by omega))
theorem yqh {l : List UInt8} {k : Nat} (hk : k < 8) (hl : k < l.length) :
  bits .or .u64 (ydq l k : Int) (IntKind.u64.wrap (IntKind.u64.wrap ((l[k]).toNat : Int) * 2 ^ (8 * (7 - k)))) = (ydq l (k + 1) : Int) := by
 have hb : (l[k]).toNat < 256 := (l[k]).toNat_lt
 have e1 : IntKind.u64.wrap ((l[k]).toNat : Int) = ((l[k]).toNat : Int) := by rw [IntKind.wrap_u64]; omega
 have hp : 2 ^ (8 * (7 - k)) ≤ 2 ^ 56 := Nat.pow_le_pow_right (by omega) (by omega)
 have hm : (l[k]).toNat * 2 ^ (8 * (7 - k)) < 18446744073709551616 := by
  have : (l[k]).toNat * 2 ^ (8 * (7 - k)) ≤ 255 * 2 ^ 56 := Nat.mul_le_mul (by omega) hp
  omega
 have e2 : ((l[k]).toNat : Int) * 2 ^ (8 * (7 - k)) = (((l[k]).toNat * 2 ^ (8 * (7 - k)) : Nat) : Int) := by simp
 rw [e1, e2]
 have e3 : IntKind.u64.wrap (((l[k]).toNat * 2 ^ (8 * (7 - k)) : Nat) : Int) = (((l[k]).toNat * 2 ^ (8 * (7 - k)) : Nat) : Int) := by rw [IntKind.wrap_u64]; omega
 rw [e3, u64_or_nat _ _ (yqg l (by omega)) hm]
 unfold ydq
 rw [yqb hk hb, accN, yk7 hl, show 8 - (k + 1) = 7 - k by omega]
theorem ylp (s : ByteArray) (w : World) (hs : s.size ≤ maxLen) :
  Calls Tryz.prog 55 #[.string s] w fun e w' => e = .returned (.int .u64 (yac s : Nat)) ∧ w = w' := by
 unfold maxLen at hs
 go_enter Tryz.func55, Tryz.ntmps55
 go_wp2
 go_step3
 go_wp2
 go_step3
 go_wp2
 go_loopg [3, 4] 9 (fun g s3 s4 wx => ∃ (k : Nat), k + g = 9 ∧ k ≤ 8 ∧ k ≤ s.size ∧ s4 = .int .i64 k ∧ s3 = .int .u64 (ydq s.data.toList k : Nat) ∧ w = wx)
 case atStart => exact ⟨0, by omega, by omega, by omega, rfl, by simp [ydq, accN], rfl⟩
 case round =>
  obtain ⟨k, hkg, h8, hks, rfl, rfl, rfl⟩ := hrel
  by_cases h1 : k < s.size
  ·have b1 : ((k:Int) == (s.size : Int)) = false := by rw [beq_eq_false_iff_ne]; omega
   by_cases h2 : k < 8
   ·have b2 : ((k:Int) == 8) = false := by rw [beq_eq_false_iff_ne]; omega
    have HS := Lib.hid (yqh (l := s.data.toList) h2 (by rw [yhg]; exact h1))
    go_wp2
    go_roundg (gk - 1)
    case measure => omega
    case rel => exact ⟨k + 1, by omega, by omega, by omega, by go_num, congrArg (Value.int .u64) HS.out, rfl⟩
   ·have b2 : ((k:Int) == 8) = true := by rw [beq_iff_eq]; omega
    have e : ydq s.data.toList k = yac s := by
     obtain rfl : k = 8 := by omega
     simp [ydq, yac]
    rw [e]
    go_wp2
    rw [Exit.noGoto_ret]
    go_ret
    exact ⟨rfl, rfl⟩
  ·have b1 : ((k:Int) == (s.size : Int)) = true := by rw [beq_iff_eq]; omega
   have e : ydq s.data.toList k = yac s := yqa (by rw [yhg]; omega) h8
   rw [e]
   go_wp2
   rw [Exit.noGoto_ret]
   go_ret
   exact ⟨rfl, rfl⟩
theorem acc {w W W1 : World} (hB : Below w.heap.size w W) (hb : Below W.heap.size W W1) : Below w.heap.size w W1 := hB.trans (hb.mono hB.size)
theorem ycz {W : World} {base e size n : Nat} {v : Value} {xs : List Value} (h : W.ownsRow base e size v n xs) : ∀ k, v.ownBlock = some k → base ≤ k := fun k hk => (h.lt k hk).1
theorem yhi {W W1 : World} {base e size n : Nat} {v : Value} {xs : List Value} (h : W.ownsRow base e size v n xs) (hb : Below W.heap.size W W1) : W1.ownsRow base e size v n xs := by
 refine h.kept (row := none) ⟨hb.os, hb.tape, hb.output, hb.size, fun k hk _ => hb.block k hk⟩ ?_
 rcases v.ownBlock.eq_none_or_eq_some with e | ⟨q, e⟩
 ·exact .inl e
 ·exact .inr (by rw [e]; intro h2; cases h2)
abbrev Item := ByteArray × ByteArray
def yaa (l : List Item) : List Value := l.flatMap fun x => [Value.string x.1, Value.string x.2]
theorem yb4 (x : Item) (l : List Item) : yaa (x :: l) = Value.string x.1 :: Value.string x.2 :: yaa l := rfl
theorem yc0 (a b : List Item) : yaa (a ++ b) = yaa a ++ yaa b := by simp [yaa]
theorem yb8 : ∀ l : List Item, (yaa l).length = l.length * 2
 | [] => rfl
 | x :: l => by rw [yb4, List.length_cons, List.length_cons, yb8 l, List.length_cons]; omega
theorem ycc : ∀ (l : List Item) (i : Nat) (h : i < l.length), (yaa l)[i * 2]? = some (.string (l[i]).1)
 | x :: l, 0, _ => rfl
 | x :: l, i + 1, h => by
  rw [show (i + 1) * 2 = i * 2 + 1 + 1 by omega, yb4, List.getElem?_cons_succ, List.getElem?_cons_succ, ycc l i (by simpa using h)]
  rfl
theorem yci : ∀ (l : List Item) (i : Nat) (h : i < l.length), (yaa l)[i * 2 + 1]? = some (.string (l[i]).2)
 | x :: l, 0, _ => rfl
 | x :: l, i + 1, h => by
  rw [show (i + 1) * 2 + 1 = i * 2 + 1 + 1 + 1 by omega, yb4, List.getElem?_cons_succ, List.getElem?_cons_succ, yci l i (by simpa using h)]
  rfl
theorem yhj (l : List Item) (n : Nat) : (yaa l).take (n * 2) = yaa (l.take n) := by
 induction l generalizing n with
 | nil => simp [yaa]
 | cons x l ih =>
  cases n with
  | zero => rfl
  | succ n => rw [show (n + 1) * 2 = n * 2 + 1 + 1 by omega, yb4, List.take_succ_cons, List.take_succ_cons, ih, List.take_succ_cons, yb4]
theorem yhk (l : List Item) (n : Nat) : (yaa l).drop (n * 2) = yaa (l.drop n) := by
 induction l generalizing n with
 | nil => simp [yaa]
 | cons x l ih =>
  cases n with
  | zero => rfl
  | succ n => rw [show (n + 1) * 2 = n * 2 + 1 + 1 by omega, yb4, List.drop_succ_cons, List.drop_succ_cons, ih, List.drop_succ_cons]
def Row (W : World) (v : Value) (l : List Item) : Prop := W.ownsRow 0 96 2 v l.length (yaa l)
structure Touch (F : List Nat) (w w1 : World) : Prop where
 os : w1.os = w.os
 tape : w1.tape = w.tape
 output : w1.output = w.output
 size : w.heap.size ≤ w1.heap.size
 block : ∀ k, k < w.heap.size → k ∉ F → w1.heap[k]? = w.heap[k]?
theorem Touch.refl (F : List Nat) (w : World) : Touch F w w := ⟨rfl, rfl, rfl, Nat.le_refl _, fun _ _ _ => rfl⟩
theorem Touch.trans {F G : List Nat} {a b c : World} (h : Touch F a b) (k : Touch G b c) (hG : ∀ x, x ∈ G → x ∈ F ∨ a.heap.size ≤ x) : Touch F a c :=
 ⟨k.os.trans h.os, k.tape.trans h.tape, k.output.trans h.output, Nat.le_trans h.size k.size, fun i hi hn =>
  (k.block i (Nat.lt_of_lt_of_le hi h.size) (fun hx => by rcases hG i hx with h1 | h1; exact hn h1; omega)).trans (h.block i hi hn)⟩
theorem Touch.mono {F G : List Nat} {a b : World} (h : Touch F a b) (hG : ∀ x, x ∈ F → x ∈ G) : Touch G a b := ⟨h.os, h.tape, h.output, h.size, fun k hk hn => h.block k hk (fun hx => hn (hG k hx))⟩
theorem Touch.drew {F : List Nat} {a b : World} (h : Touch F a b) : Touch F a b.drew := ⟨h.os, h.tape, h.output, h.size, h.block⟩
theorem Touch.drewN {F : List Nat} {a b : World} (h : Touch F a b) (n : Nat) : Touch F a (b.drewN n) := ⟨h.os, h.tape, h.output, h.size, h.block⟩
theorem Touch.alloc {F : List Nat} {a b : World} (h : Touch F a b) (o : Obj) : Touch F a (b.alloc o) :=
 ⟨h.os, h.tape, h.output, by have := h.size; simp; omega, fun k hk hn => (Below.heap_alloc _ _ _ (Nat.lt_of_lt_of_le hk h.size)).trans (h.block k hk hn)⟩
theorem Touch.set {F : List Nat} {a b : World} (h : Touch F a b) {p : Addr} (hp : p.block ∈ F ∨ a.heap.size ≤ p.block) (u : Value) : Touch F a (b.setCell p u) :=
 ⟨h.os, h.tape, h.output, by have := h.size; simpa [World.setCell] using this, fun k hk hn =>
  (Below.heap_setCell _ _ _ _ (fun e => by rcases hp with h1 | h1; exact hn (e ▸ h1); omega)).trans (h.block k hk hn)⟩
theorem Touch.grown {F : List Nat} {row : Option Nat} {a b c : World} (h : Touch F a b) (hg : b.grownBy c row) (hr : ∀ k, row = some k → k ∈ F ∨ a.heap.size ≤ k) : Touch F a c :=
 ⟨hg.os.trans h.os, hg.tape.trans h.tape, hg.output.trans h.output, Nat.le_trans h.size hg.size, fun i hi hn =>
  (hg.block i (Nat.lt_of_lt_of_le hi h.size) (fun e => by rcases hr i e.symm with h1 | h1; exact hn h1; omega)).trans (h.block i hi hn)⟩
theorem Touch.below {F : List Nat} {a b : World} {B : Nat} (h : Touch F a b) (hB : B ≤ a.heap.size) (hF : ∀ x, x ∈ F → B ≤ x) : Below B a b :=
 ⟨h.os, h.tape, h.output, h.size, fun k hk => h.block k (by omega) (fun hx => by have := hF k hx; omega)⟩
theorem Touch.ofBelow {F : List Nat} {a b : World} (h : Below a.heap.size a b) : Touch F a b := ⟨h.os, h.tape, h.output, h.size, fun k hk _ => h.block k hk⟩
theorem Touch.acc {F : List Nat} {w a b : World} (hB : Below w.heap.size w a) (h : Touch F a b) (hF : ∀ x, x ∈ F → w.heap.size ≤ x) : Below w.heap.size w b := hB.trans (h.below hB.size hF)
theorem Touch.cell {F : List Nat} {a b : World} (h : Touch F a b) {p : Addr} (hp : p.block < a.heap.size) (hn : p.block ∉ F) : b.cell? p = a.cell? p := World.cell?_of_block (w := a) (h.block p.block hp hn)
theorem Touch.frozen {F : List Nat} {a b : World} (h : Touch F a b) {p : Addr} (hp : p.block < a.heap.size) (hn : p.block ∉ F) : b.frozen? p = a.frozen? p := World.frozen?_of_block (w := a) (h.block p.block hp hn)
theorem Touch.row {F : List Nat} {a b : World} {base e size n : Nat} {v : Value} {xs : List Value} (h : Touch F a b) (hr : a.ownsRow base e size v n xs) (hn : ∀ q, v.ownBlock = some q → q ∉ F) : b.ownsRow base e size v n xs := by
 refine ⟨hr.1, ?_⟩
 rcases hr.2 with h0 | ⟨g, cap, cur, hv, hb, hh, r⟩
 ·exact .inl h0
 ·have hlt : g < a.heap.size := by
   have := hr.lt g (by rw [hv]; rfl)
   exact this.2
  exact .inr ⟨g, cap, cur, hv, hb, by rw [h.block g hlt (hn g (by rw [hv]; rfl))]; exact hh, r⟩
def yad (a b : ByteArray) : Bool := Op.bytesLess a.toList b.toList
def yai : List Item → ByteArray → Nat
 | [], _ => 0
 | x :: l, k => if yad x.1 k then yai l k + 1 else 0
theorem yd2 : ∀ (l : List Item) (k : ByteArray), yai l k ≤ l.length
 | [], _ => Nat.le_refl _
 | x :: l, k => by
  rw [yai]
  have := yd2 l k
  split
  ·rw [List.length_cons]; omega
  ·exact Nat.zero_le _
theorem ylq : ∀ (l : List Item) (k : ByteArray) (i : Nat) (h : i < l.length), i ≤ yai l k → (yad (l[i]).1 k = true ↔ i + 1 ≤ yai l k)
 | x :: l, k, 0, _, _ => by
  rw [yai]
  cases hx : yad x.1 k with
  | true =>
   refine ⟨fun _ => ?_, fun _ => hx⟩
   rw [if_pos rfl]; omega
  | false =>
   refine ⟨fun h => ?_, fun h => ?_⟩
   ·have h' : yad x.1 k = true := h
    rw [hx] at h'; cases h'
   ·simp at h
 | x :: l, k, i + 1, h, hi => by
  rw [yai] at hi ⊢
  cases hx : yad x.1 k with
  | true =>
   rw [hx] at hi
   have := ylq l k i (by simpa using h) (by simpa using hi)
   simpa using this
  | false =>
   rw [hx] at hi
   simp at hi
def hasN (l : List Item) (k : ByteArray) : Bool := match l[yai l k]? with
 | some x => x.1.toList == k.toList
 | none => false
def putN (l : List Item) (k v : ByteArray) : List Item := l.take (yai l k) ++ (k, v) :: l.drop (if hasN l k then yai l k + 1 else yai l k)
def delN (l : List Item) (k : ByteArray) : List Item := if hasN l k then l.take (yai l k) ++ l.drop (yai l k + 1) else l
theorem yf7 {l : List Item} {k : ByteArray} (h : hasN l k = true) : yai l k < l.length := by
 unfold hasN at h
 split at h
 ·rename_i x e
  exact (List.getElem?_eq_some_iff.1 e).1
 ·cases h
theorem yc1 (a : ByteArray) : yad a a = false := yld _
theorem yhl {a b : ByteArray} (h : yad a b = true) : yad b a = false := yle _ _ h
theorem ydr {a b c : ByteArray} (h : yad a b = true) (k : yad b c = true) : yad a c = true := ylf _ _ _ h k
theorem yhm {a b : ByteArray} (h : a.toList = b.toList) : a = b := ByteArray.ext (Array.ext' (by rw [← Lib.toList_data, ← Lib.toList_data]; exact h))
theorem yjc {a b : ByteArray} (h : a ≠ b) : yad a b = true ∨ yad b a = true := yi3 _ _ (fun e => h (yhm e))
def yah (l : List Item) : Prop := l.Pairwise fun x y => yad x.1 y.1 = true
theorem yah.nil : yah [] := List.Pairwise.nil
theorem ycj {a b : List Item} : yah (a ++ b) ↔ yah a ∧ yah b ∧ ∀ x ∈ a, ∀ y ∈ b, yad x.1 y.1 = true := List.pairwise_append
theorem ycq {x : Item} {b : List Item} : yah (x :: b) ↔ (∀ y ∈ b, yad x.1 y.1 = true) ∧ yah b := List.pairwise_cons
def ya7 (a : List Item) (k : ByteArray) : Prop := ∀ x ∈ a, yad x.1 k = true
theorem yf8 : ∀ {a : List Item} {k : ByteArray} (_ : ya7 a k) (b : List Item), yai (a ++ b) k = a.length + yai b k
 | [], k, _, b => by simp
 | x :: a, k, h, b => by
  rw [List.cons_append, yai, if_pos (h x (by simp)), yf8 (fun y hy => h y (by simp [hy])) b, List.length_cons]
  omega
theorem yjd (a : List Item) {x : Item} {k : ByteArray} (h : yad x.1 k = false) (b : List Item) : yai (a ++ x :: b) k = yai a k := by
 induction a with
 | nil => simp [yai, h]
 | cons y a ih => rw [List.cons_append, yai, yai, ih]
theorem yhn {a : List Item} {k : ByteArray} (h : ya7 a k) (b : List Item) : hasN (a ++ b) k = hasN b k := by
 unfold hasN
 rw [yf8 h, List.getElem?_append_right (by omega), show a.length + yai b k - a.length = yai b k by omega]
theorem yje (a : List Item) {x : Item} {k : ByteArray} (h : yad k x.1 = true) (b : List Item) : hasN (a ++ x :: b) k = hasN a k := by
 unfold hasN
 rw [yjd a (yhl h)]
 by_cases hp : yai a k < a.length
 ·rw [List.getElem?_append_left hp]
 ·have e : yai a k = a.length := by have := yd2 a k; omega
  rw [e, List.getElem?_append_right (Nat.le_refl _), Nat.sub_self, List.getElem?_eq_none (l := a) (Nat.le_refl _)]
  simp only [List.getElem?_cons_zero]
  rw [beq_eq_false_iff_ne]
  intro e2
  rw [yhm e2, yc1] at h
  cases h
theorem yjf {a : List Item} {x : Item} (h : ya7 a x.1) (b : List Item) : hasN (a ++ x :: b) x.1 = true := by
 rw [yhn h]
 unfold hasN
 rw [yai, yc1]
 simp
theorem yho {a : List Item} {k v : ByteArray} (h : ya7 a k) (b : List Item) : putN (a ++ b) k v = a ++ putN b k v := by
 unfold putN
 rw [yhn h, yf8 h, List.take_length_add_append, List.append_assoc]
 congr 3
 split
 ·rw [show a.length + yai b k + 1 = a.length + (yai b k + 1) by omega, List.drop_length_add_append]
 ·rw [List.drop_length_add_append]
theorem yqi (a : List Item) {x : Item} {k v : ByteArray} (h : yad k x.1 = true) (b : List Item) : putN (a ++ x :: b) k v = putN a k v ++ x :: b := by
 have hp := yd2 a k
 unfold putN
 rw [yje a h, yjd a (yhl h), List.take_append_of_le_length hp, List.append_assoc, List.cons_append]
 congr 2
 split
 ·rename_i hh
  have := yf7 hh
  rw [List.drop_append_of_le_length (by omega)]
 ·rw [List.drop_append_of_le_length hp]
theorem yhp {a : List Item} {x : Item} {v : ByteArray} (h : ya7 a x.1) (b : List Item) : putN (a ++ x :: b) x.1 v = a ++ (x.1, v) :: b := by
 rw [yho h]
 congr 1
 have e := yjf (a := []) (x := x) (fun y hy => by cases hy) b
 rw [List.nil_append] at e
 unfold putN
 rw [e, if_pos rfl, yai, yc1]
 simp
theorem yjg {a : List Item} {k : ByteArray} (h : ya7 a k) (b : List Item) : delN (a ++ b) k = a ++ delN b k := by
 unfold delN
 rw [yhn h, yf8 h, List.take_length_add_append]
 split
 ·rw [show a.length + yai b k + 1 = a.length + (yai b k + 1) by omega, List.drop_length_add_append, List.append_assoc]
 ·rfl
theorem yqj (a : List Item) {x : Item} {k : ByteArray} (h : yad k x.1 = true) (b : List Item) : delN (a ++ x :: b) k = delN a k ++ x :: b := by
 have hp := yd2 a k
 unfold delN
 rw [yje a h, yjd a (yhl h), List.take_append_of_le_length hp]
 split
 ·rename_i hh
  have := yf7 hh
  rw [List.drop_append_of_le_length (by omega), List.append_assoc]
 ·rfl
theorem yf9 {a : List Item} {x : Item} (h : ya7 a x.1) (b : List Item) : delN (a ++ x :: b) x.1 = a ++ b := by
 rw [yjg h]
 congr 1
 have e := yjf (a := []) (x := x) (fun y hy => by cases hy) b
 rw [List.nil_append] at e
 unfold delN
 rw [e, if_pos rfl, yai, yc1]
 simp
theorem yga (l : List Item) (k v : ByteArray) : (putN l k v).length = if hasN l k then l.length else l.length + 1 := by
 have hp := yd2 l k
 unfold putN
 rw [List.length_append, List.length_cons, List.length_take, List.length_drop, Nat.min_eq_left hp]
 split
 ·rename_i hh
  have := yf7 hh
  omega
 ·omega
theorem ylr (l : List Item) (k : ByteArray) : (delN l k).length = if hasN l k then l.length - 1 else l.length := by
 have hp := yd2 l k
 unfold delN
 split
 ·rename_i hh
  have := yf7 hh
  rw [List.length_append, List.length_take, List.length_drop, Nat.min_eq_left hp]
  omega
 ·rfl
theorem yls : ∀ {l : List Item} (_ : yah l) (k : ByteArray), ∃ a b, l = a ++ b ∧ ya7 a k ∧ ∀ y ∈ b, yad y.1 k = false
 | [], _, k => ⟨[], [], rfl, (fun x hx => by cases hx), (fun x hx => by cases hx)⟩
 | x :: l, h, k => by
  obtain ⟨h1, h2⟩ := ycq.1 h
  cases e : yad x.1 k with
  | true =>
   obtain ⟨a, b, rfl, ha, hb⟩ := yls h2 k
   exact ⟨x :: a, b, rfl, (fun y hy => by rcases List.mem_cons.1 hy with rfl | hy; exact e; exact ha y hy), hb⟩
  | false =>
   refine ⟨[], x :: l, rfl, (fun y hy => by cases hy), (fun y hy => ?_)⟩
   rcases List.mem_cons.1 hy with rfl | hy
   ·exact e
   ·cases e2 : yad y.1 k with
    | false => rfl
    | true => rw [ydr (h1 y hy) e2] at e; cases e
theorem yhq {l : List Item} (h : yah l) (k : ByteArray) : (∃ a v b, l = a ++ (k, v) :: b ∧ ya7 a k ∧ (∀ y ∈ b, yad k y.1 = true)) ∨ (∃ a b, l = a ++ b ∧ ya7 a k ∧ (∀ y ∈ b, yad k y.1 = true)) := by
 obtain ⟨a, b, rfl, ha, hb⟩ := yls h k
 cases b with
 | nil => exact .inr ⟨a, [], rfl, ha, (fun y hy => by cases hy)⟩
 | cons x b =>
  obtain ⟨_, h2, _⟩ := ycj.1 h
  have h3 := (ycq.1 h2).1
  by_cases e : x.1 = k
  ·left
   refine ⟨a, x.2, b, by rw [← e], ha, fun y hy => by rw [← e]; exact h3 y hy⟩
  ·right
   have z : yad k x.1 = true := by
    rcases yjc e with z | z
    ·rw [hb x (by simp)] at z; cases z
    ·exact z
   refine ⟨a, x :: b, rfl, ha, fun y hy => ?_⟩
   rcases List.mem_cons.1 hy with rfl | hy
   ·exact z
   ·exact ydr z (h3 y hy)
theorem ygb {b : List Item} {k : ByteArray} (h : ∀ y ∈ b, yad k y.1 = true) : hasN b k = false ∧ (∀ v, putN b k v = (k, v) :: b) ∧ delN b k = b := by
 cases b with
 | nil => exact ⟨rfl, fun _ => rfl, rfl⟩
 | cons x b =>
  have z := h x (by simp)
  have e1 := yje [] z b
  have e2 := fun v => yqi [] (v := v) z b
  have e3 := yqj [] z b
  exact ⟨e1, e2, e3⟩
theorem yah.put {l : List Item} (h : yah l) (k v : ByteArray) : yah (putN l k v) := by
 rcases yhq h k with ⟨a, u, b, rfl, ha, hb⟩ | ⟨a, b, rfl, ha, hb⟩
 ·obtain ⟨h1, h2, h3⟩ := ycj.1 h
  rw [show putN (a ++ (k, u) :: b) k v = a ++ (k, v) :: b from yhp (x := (k, u)) ha b]
  refine ycj.2 ⟨h1, ycq.2 ⟨hb, (ycq.1 h2).2⟩, fun x hx y hy => ?_⟩
  rcases List.mem_cons.1 hy with rfl | hy
  ·exact ha x hx
  ·exact h3 x hx y (by simp [hy])
 ·obtain ⟨h1, h2, h3⟩ := ycj.1 h
  rw [yho ha, (ygb hb).2.1]
  refine ycj.2 ⟨h1, ycq.2 ⟨hb, h2⟩, fun x hx y hy => ?_⟩
  rcases List.mem_cons.1 hy with rfl | hy
  ·exact ha x hx
  ·exact h3 x hx y hy
theorem yah.del {l : List Item} (h : yah l) (k : ByteArray) : yah (delN l k) := by
 rcases yhq h k with ⟨a, u, b, rfl, ha, hb⟩ | ⟨a, b, rfl, ha, hb⟩
 ·obtain ⟨h1, h2, h3⟩ := ycj.1 h
  rw [show delN (a ++ (k, u) :: b) k = a ++ b from yf9 (x := (k, u)) ha b]
  exact ycj.2 ⟨h1, (ycq.1 h2).2, fun x hx y hy => h3 x hx y (by simp [hy])⟩
 ·rw [yjg ha, (ygb hb).2.2]
  exact h
theorem yqk {l : List Item} (h : yah l) (k v : ByteArray) (x : Item) : x ∈ putN l k v ↔ x = (k, v) ∨ (x ∈ l ∧ x.1 ≠ k) := by
 have nu : ∀ {a : List Item}, ya7 a k → ∀ {x}, x ∈ a → x.1 ≠ k := fun ha x hx e => by
  have := ha x hx; rw [e, yc1] at this; cases this
 have no : ∀ {b : List Item}, (∀ y ∈ b, yad k y.1 = true) → ∀ {x}, x ∈ b → x.1 ≠ k := fun hb x hx e => by
  have := hb x hx; rw [e, yc1] at this; cases this
 rcases yhq h k with ⟨a, u, b, rfl, ha, hb⟩ | ⟨a, b, rfl, ha, hb⟩
 ·rw [show putN (a ++ (k, u) :: b) k v = a ++ (k, v) :: b from yhp (x := (k, u)) ha b]
  simp only [List.mem_append, List.mem_cons]
  constructor
  ·rintro (z | z | z)
   ·exact .inr ⟨.inl z, nu ha z⟩
   ·exact .inl z
   ·exact .inr ⟨.inr (.inr z), no hb z⟩
  ·rintro (z | ⟨z | z | z, hn⟩)
   ·exact .inr (.inl z)
   ·exact .inl z
   ·exact absurd (by rw [z]) hn
   ·exact .inr (.inr z)
 ·rw [yho ha, (ygb hb).2.1]
  simp only [List.mem_append, List.mem_cons]
  constructor
  ·rintro (z | z | z)
   ·exact .inr ⟨.inl z, nu ha z⟩
   ·exact .inl z
   ·exact .inr ⟨.inr z, no hb z⟩
  ·rintro (z | ⟨z | z, _⟩)
   ·exact .inr (.inl z)
   ·exact .inl z
   ·exact .inr (.inr z)
theorem ylt : ∀ {a b : List Item} (_ : yah a) (_ : yah b) (_ : ∀ x, x ∈ a ↔ x ∈ b), a = b
 | [], [], _, _, _ => rfl
 | [], y :: b, _, _, h => by have := (h y).2 (by simp); cases this
 | x :: a, [], _, _, h => by have := (h x).1 (by simp); cases this
 | x :: a, y :: b, ha, hb, h => by
  obtain ⟨a1, a2⟩ := ycq.1 ha
  obtain ⟨b1, b2⟩ := ycq.1 hb
  have e : x = y := by
   rcases List.mem_cons.1 ((h x).1 (by simp)) with z | z
   ·exact z
   ·rcases List.mem_cons.1 ((h y).2 (by simp)) with w | w
    ·exact w.symm
    ·have := yhl (b1 x z)
     rw [a1 y w] at this
     cases this
  subst e
  rw [ylt a2 b2 (fun z => ?_)]
  have hz := h z
  simp only [List.mem_cons] at hz
  constructor
  ·intro q
   rcases hz.1 (.inr q) with rfl | r
   ·have := a1 z q; rw [yc1] at this; cases this
   ·exact r
  ·intro q
   rcases hz.2 (.inr q) with rfl | r
   ·have := b1 z q; rw [yc1] at this; cases this
   ·exact r
def adr (x : Item) : Nat := yac x.1
theorem ygc (x : Item) : adr x < 18446744073709551616 := yhh _
theorem ylu (x : Item) : adr x = valN 8 x.1.toList := by rw [adr, yac, yhc, Lib.toList_data]
def yae (l : List Item) (f t : ByteArray) : List Item := l.filter fun x => !yad x.1 f && (t.size == 0 || yad x.1 t)
def inA (f t : Nat) (late : Bool) (x : Item) : Bool := inB f t (adr x) && (decide (f ≤ adr x) != late)
def arcL (l : List Item) (f t : Nat) : List Item := l.filter (inA f t false) ++ l.filter (inA f t true)
def dst (f : Nat) (x : Item) : Nat := yag (adr x) f
theorem yql {l : List Item} {p : Item → Bool} (h : ∀ x ∈ l, p x = false) : l.filter p = [] := List.filter_eq_nil_iff.2 fun x hx => by rw [h x hx]; simp
def getI (l : List Item) (k : ByteArray) : ByteArray := match l[yai l k]? with
 | some x => if x.1.toList == k.toList then x.2 else ByteArray.empty
 | none => ByteArray.empty
def yjh (l : List Item) (f t : Nat) : List Item := l.filter fun x => !inB f t (adr x)
end Go.Proofs.YtnjodhglbapnlaaGreat
