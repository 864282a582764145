/-
  The walk of arc.Within.
-/
import Derived.Test.YthjhfnbcfgkehaaArcSplit
import Derived.Deep.RegionHeld3
namespace Go.Proofs.Ythjhfnbcfgkehaa
open Go.RowKit

/-- does it hold of one from k on, below n? of all? -/
def anyFrom (p : Nat → Bool) (n k : Nat) : Bool := (List.range (n - k)).any fun i => p (k + i)
def allFrom (p : Nat → Bool) (n k : Nat) : Bool := (List.range (n - k)).all fun i => p (k + i)
theorem any_end (p : Nat → Bool) (n : Nat) : anyFrom p n n = false := by simp [anyFrom]
theorem all_end (p : Nat → Bool) (n : Nat) : allFrom p n n = true := by simp [allFrom]
theorem any_step (p : Nat → Bool) (n k : Nat) (h : k < n) : anyFrom p n k = (p k || anyFrom p n (k + 1)) := by
  unfold anyFrom
  obtain ⟨m, hm⟩ : ∃ m, n - k = m + 1 := ⟨n - k - 1, by omega⟩
  rw [hm, show n - (k + 1) = m by omega, List.range_succ_eq_map, List.any_cons, List.any_map]
  have e : ((fun i => p (k + i)) ∘ Nat.succ) = fun i => p (k + 1 + i) := by
    funext i
    show p (k + (i + 1)) = _
    rw [show k + (i + 1) = k + 1 + i by omega]
  rw [e]
  rfl
theorem all_step (p : Nat → Bool) (n k : Nat) (h : k < n) : allFrom p n k = (p k && allFrom p n (k + 1)) := by
  unfold allFrom
  obtain ⟨m, hm⟩ : ∃ m, n - k = m + 1 := ⟨n - k - 1, by omega⟩
  rw [hm, show n - (k + 1) = m by omega, List.range_succ_eq_map, List.all_cons, List.all_map]
  have e : ((fun i => p (k + i)) ∘ Nat.succ) = fun i => p (k + 1 + i) := by
    funext i
    show p (k + (i + 1)) = _
    rw [show k + (i + 1) = k + 1 + i by omega]
  rw [e]
  rfl
theorem any_one (p : Nat → Bool) : anyFrom p 1 0 = p 0 := by rw [any_step _ _ _ (by omega), any_end, Bool.or_false]
theorem any_two (p : Nat → Bool) : anyFrom p 2 0 = (p 0 || p 1) := by rw [any_step _ _ _ (by omega), any_step _ _ _ (by omega), any_end, Bool.or_false]
theorem all_one (p : Nat → Bool) : allFrom p 1 0 = p 0 := by rw [all_step _ _ _ (by omega), all_end, Bool.and_true]
theorem all_two (p : Nat → Bool) : allFrom p 2 0 = (p 0 && p 1) := by rw [all_step _ _ _ (by omega), all_step _ _ _ (by omega), all_end, Bool.and_true]
/-- does all of piece j of b lie in piece k of a? -/
def fitB (f t g u j k : Nat) : Bool := decide (pF f t k ≤ pF g u j) && decide (lastN (pT g u j) ≤ lastN (pT f t k))
def someB (f t g u j k : Nat) : Bool := anyFrom (fitB f t g u j) (pN f t) k
def eachB (f t g u j : Nat) : Bool := allFrom (fun i => someB f t g u i 0) (pN g u) j

theorem one_cases (f t : Nat) : (oneB f t = true ∧ pN f t = 1 ∧ pF f t 0 = f ∧ pT f t 0 = t ∧ (t = 0 ∨ f < t)) ∨ (oneB f t = false ∧ pN f t = 2 ∧ pF f t 0 = f ∧ pT f t 0 = 0 ∧ pF f t 1 = 0 ∧ pT f t 1 = t ∧ t ≠ 0 ∧ t ≤ f) := by
  by_cases h : oneB f t = true
  · refine .inl ⟨h, by simp [pN, h], by simp [pF], by simp [pT, h], ?_⟩
    simpa [oneB] using h
  · have h : oneB f t = false := by simpa using h
    refine .inr ⟨h, by simp [pN, h], by simp [pF], by simp [pT, h], by simp [pF], by simp [pT], ?_⟩
    simpa [oneB] using h
theorem last_cases {t : Nat} (ht : t < 18446744073709551616) : (t = 0 ∧ lastN t = 18446744073709551615) ∨ (0 < t ∧ lastN t = t - 1) := by
  unfold lastN sub64; omega

theorem each_all (f t g u : Nat) (hw : (f == t) = false) (hf : f < 18446744073709551616) (ht : t < 18446744073709551616) (hg : g < 18446744073709551616) (hu : u < 18446744073709551616) : eachB f t g u 0 = withinB f t g u := by
  have hw' : f ≠ t := by simpa using hw
  have e1 := sub64_cases hg hf
  have e2 := sub64_cases ht hf
  have e3 := sub64_cases hu hg
  have e4 := sub64_cases ht hg
  have l1 := last_cases ht
  have l2 := last_cases hu
  have l3 : lastN 0 = 18446744073709551615 := by decide
  unfold withinB inB
  rw [hw]
  generalize sub64 g f = x1 at *
  generalize sub64 t f = x2 at *
  generalize sub64 u g = x3 at *
  generalize sub64 t g = x4 at *
  unfold eachB someB
  rcases one_cases f t with ⟨_, n1, q1, q2, q3⟩ | ⟨_, n1, q1, q2, q3, q4, q5, q6⟩
  all_goals rcases one_cases g u with ⟨_, m1, r1, r2, r3⟩ | ⟨_, m1, r1, r2, r3, r4, r5, r6⟩
  all_goals
    rw [n1, m1]
    simp only [any_one, any_two, all_one, all_two, fitB, q1, q2, r1, r2]
    try simp only [q3, q4]
    try simp only [r3, r4]
    rw [Bool.eq_iff_iff]
    simp only [Bool.and_eq_true, Bool.or_eq_true, Bool.not_eq_true', beq_eq_false_iff_ne, decide_eq_true_eq, Bool.false_or]
    generalize lastN t = y1 at *
    generalize lastN u = y2 at *
    generalize lastN 0 = y3 at *
    clear n1 m1 q1 q2 r1 r2 hw
    constructor
    · intro h; omega
    · intro h; omega

theorem some_yes {f t g u j k : Nat} (h : k < pN f t) (h1 : pF f t k ≤ pF g u j) (h2 : lastN (pT g u j) ≤ lastN (pT f t k)) : someB f t g u j k = true := by
  unfold someB
  rw [any_step _ _ _ h]
  simp [fitB, h1, h2]
theorem some_no1 {f t g u j k : Nat} (h : k < pN f t) (h1 : ¬ pF f t k ≤ pF g u j) : someB f t g u j k = someB f t g u j (k + 1) := by
  unfold someB
  rw [any_step _ _ _ h]
  simp [fitB, h1]
theorem some_no2 {f t g u j k : Nat} (h : k < pN f t) (h2 : ¬ lastN (pT g u j) ≤ lastN (pT f t k)) : someB f t g u j k = someB f t g u j (k + 1) := by
  unfold someB
  rw [any_step _ _ _ h]
  simp [fitB, h2]
theorem some_end (f t g u j : Nat) : someB f t g u j (pN f t) = false := any_end _ _
theorem each_end (f t g u : Nat) : eachB f t g u (pN g u) = true := all_end _ _
theorem each_yes {f t g u j : Nat} (h : j < pN g u) (h1 : someB f t g u j 0 = true) : eachB f t g u j = eachB f t g u (j + 1) := by
  unfold eachB
  rw [all_step _ _ _ h, h1, Bool.true_and]
theorem each_no {f t g u j : Nat} (h : j < pN g u) (h1 : someB f t g u j 0 = false) : eachB f t g u j = false := by
  unfold eachB
  rw [all_step _ _ _ h, h1, Bool.false_and]
theorem cell_new0 (w : World) (a b : Value) (T : TypeId) : (w.alloc (.cells #[a, b] T)).cell? ⟨w.heap.size, 0, none⟩ = some a := by go_simp
theorem cell_new1 (w : World) (a b : Value) (T : TypeId) : (w.alloc (.cells #[a, b] T)).cell? ⟨w.heap.size, 1, none⟩ = some b := by go_simp
theorem keep_step {wb W W1 : World} {A : World → Prop} (HS : ∀ w', Below wb.heap.size wb w' → Below wb.heap.size wb w' ∧ A w') (h : Below wb.heap.size wb W ∧ A W) (hb : Below W.heap.size W W1) : Below wb.heap.size wb W1 ∧ A W1 :=
  HS _ (h.1.trans (hb.mono h.1.size))

end Go.Proofs.Ythjhfnbcfgkehaa
