/-
  The walk of arc.Within.
-/
import Derived.Test.YtfddheioganmfaaArcSplit
import Derived.Deep.RegionHeld3
namespace Go.Proofs.Ytfddheioganmfaa
open Go.RowKit

/-- does it hold of one from k on, below n? of all? -/
def anyFrom (p : Nat → Bool) (n k : Nat) : Bool := (List.range (n - k)).any fun i => p (k + i)
def allFrom (p : Nat → Bool) (n k : Nat) : Bool := (List.range (n - k)).all fun i => p (k + i)
theorem any_end (p : Nat → Bool) (n : Nat) : anyFrom p n n = false := by simp [anyFrom]
theorem all_end (p : Nat → Bool) (n : Nat) : allFrom p n n = true := by simp [allFrom]
theorem any_step (p : Nat → Bool) (n k : Nat) (h : k < n) : anyFrom p n k = (p k || anyFrom p n (k + 1)) := by
  unfold anyFrom
  obtain ⟨m, hm⟩ : ∃ m, n - k = m + 1 := ⟨n - k - 1, by omega⟩
  rw [hm, show n - (k + 1) = m by omega, List.range_succ_eq_map, List.any_cons, List.any_map]
  have e : ((fun i => p (k + i)) ∘ Nat.succ) = fun i => p (k + 1 + i) := by
    funext i
    show p (k + (i + 1)) = _
    rw [show k + (i + 1) = k + 1 + i by omega]
  rw [e]
  rfl
theorem all_step (p : Nat → Bool) (n k : Nat) (h : k < n) : allFrom p n k = (p k && allFrom p n (k + 1)) := by
  unfold allFrom
  obtain ⟨m, hm⟩ : ∃ m, n - k = m + 1 := ⟨n - k - 1, by omega⟩
  rw [hm, show n - (k + 1) = m by omega, List.range_succ_eq_map, List.all_cons, List.all_map]
  have e : ((fun i => p (k + i)) ∘ Nat.succ) = fun i => p (k + 1 + i) := by
    funext i
    show p (k + (i + 1)) = _
    rw [show k + (i + 1) = k + 1 + i by omega]
  rw [e]
  rfl
theorem any_one (p : Nat → Bool) : anyFrom p 1 0 = p 0 := by rw [any_step _ _ _ (by omega), any_end, Bool.or_false]
theorem any_two (p : Nat → Bool) : anyFrom p 2 0 = (p 0 || p 1) := by rw [any_step _ _ _ (by omega), any_step _ _ _ (by omega), any_end, Bool.or_false]
theorem all_one (p : Nat → Bool) : allFrom p 1 0 = p 0 := by rw [all_step _ _ _ (by omega), all_end, Bool.and_true]
theorem all_two (p : Nat → Bool) : allFrom p 2 0 = (p 0 && p 1) := by rw [all_step _ _ _ (by omega), all_step _ _ _ (by omega), all_end, Bool.and_true]
/-- does all of piece j of b lie in piece k of a? -/
def fitB (f t g u j k : Nat) : Bool := decide (pF f t k ≤ pF g u j) && decide (lastN (pT g u j) ≤ lastN (pT f t k))
def someB (f t g u j k : Nat) : Bool := anyFrom (fitB f t g u j) (pN f t) k
def eachB (f t g u j : Nat) : Bool := allFrom (fun i => someB f t g u i 0) (pN g u) j

theorem one_cases (f t : Nat) : (oneB f t = true ∧ pN f t = 1 ∧ pF f t 0 = f ∧ pT f t 0 = t ∧ (t = 0 ∨ f < t)) ∨ (oneB f t = false ∧ pN f t = 2 ∧ pF f t 0 = f ∧ pT f t 0 = 0 ∧ pF f t 1 = 0 ∧ pT f t 1 = t ∧ t ≠ 0 ∧ t ≤ f) := by
  by_cases h : oneB f t = true
  · refine .inl ⟨h, by simp [pN, h], by simp [pF], by simp [pT, h], ?_⟩
    simpa [oneB] using h
  · have h : oneB f t = false := by simpa using h
    refine .inr ⟨h, by simp [pN, h], by simp [pF], by simp [pT, h], by simp [pF], by simp [pT], ?_⟩
    simpa [oneB] using h
theorem last_cases {t : Nat} (ht : t < 18446744073709551616) : (t = 0 ∧ lastN t = 18446744073709551615) ∨ (0 < t ∧ lastN t = t - 1) := by
  unfold lastN sub64; omega

theorem each_all (f t g u : Nat) (hw : (f == t) = false) (hf : f < 18446744073709551616) (ht : t < 18446744073709551616) (hg : g < 18446744073709551616) (hu : u < 18446744073709551616) : eachB f t g u 0 = withinB f t g u := by
  have hw' : f ≠ t := by simpa using hw
  have e1 := sub64_cases hg hf
  have e2 := sub64_cases ht hf
  have e3 := sub64_cases hu hg
  have e4 := sub64_cases ht hg
  have l1 := last_cases ht
  have l2 := last_cases hu
  have l3 : lastN 0 = 18446744073709551615 := by decide
  unfold withinB inB
  rw [hw]
  generalize sub64 g f = x1 at *
  generalize sub64 t f = x2 at *
  generalize sub64 u g = x3 at *
  generalize sub64 t g = x4 at *
  unfold eachB someB
  rcases one_cases f t with ⟨_, n1, q1, q2, q3⟩ | ⟨_, n1, q1, q2, q3, q4, q5, q6⟩
  all_goals rcases one_cases g u with ⟨_, m1, r1, r2, r3⟩ | ⟨_, m1, r1, r2, r3, r4, r5, r6⟩
  all_goals
    rw [n1, m1]
    simp only [any_one, any_two, all_one, all_two, fitB, q1, q2, r1, r2]
    try simp only [q3, q4]
    try simp only [r3, r4]
    rw [Bool.eq_iff_iff]
    simp only [Bool.and_eq_true, Bool.or_eq_true, Bool.not_eq_true', beq_eq_false_iff_ne, decide_eq_true_eq, Bool.false_or]
    generalize lastN t = y1 at *
    generalize lastN u = y2 at *
    generalize lastN 0 = y3 at *
    clear n1 m1 q1 q2 r1 r2 hw
    constructor
    · intro h; omega
    · intro h; omega

theorem some_yes {f t g u j k : Nat} (h : k < pN f t) (h1 : pF f t k ≤ pF g u j) (h2 : lastN (pT g u j) ≤ lastN (pT f t k)) : someB f t g u j k = true := by
  unfold someB
  rw [any_step _ _ _ h]
  simp [fitB, h1, h2]
theorem some_no1 {f t g u j k : Nat} (h : k < pN f t) (h1 : ¬ pF f t k ≤ pF g u j) : someB f t g u j k = someB f t g u j (k + 1) := by
  unfold someB
  rw [any_step _ _ _ h]
  simp [fitB, h1]
theorem some_no2 {f t g u j k : Nat} (h : k < pN f t) (h2 : ¬ lastN (pT g u j) ≤ lastN (pT f t k)) : someB f t g u j k = someB f t g u j (k + 1) := by
  unfold someB
  rw [any_step _ _ _ h]
  simp [fitB, h2]
theorem some_end (f t g u j : Nat) : someB f t g u j (pN f t) = false := any_end _ _
theorem each_end (f t g u : Nat) : eachB f t g u (pN g u) = true := all_end _ _
theorem each_yes {f t g u j : Nat} (h : j < pN g u) (h1 : someB f t g u j 0 = true) : eachB f t g u j = eachB f t g u (j + 1) := by
  unfold eachB
  rw [all_step _ _ _ h, h1, Bool.true_and]
theorem each_no {f t g u j : Nat} (h : j < pN g u) (h1 : someB f t g u j 0 = false) : eachB f t g u j = false := by
  unfold eachB
  rw [all_step _ _ _ h, h1, Bool.false_and]
theorem cell_new0 (w : World) (a b : Value) (T : TypeId) : (w.alloc (.cells #[a, b] T)).cell? ⟨w.heap.size, 0, none⟩ = some a := by go_simp
theorem cell_new1 (w : World) (a b : Value) (T : TypeId) : (w.alloc (.cells #[a, b] T)).cell? ⟨w.heap.size, 1, none⟩ = some b := by go_simp
theorem keep_step {wb W W1 : World} {A : World → Prop} (HS : ∀ w', Below wb.heap.size wb w' → Below wb.heap.size wb w' ∧ A w') (h : Below wb.heap.size wb W ∧ A W) (hb : Below W.heap.size W W1) : Below wb.heap.size wb W1 ∧ A W1 :=
  HS _ (h.1.trans (hb.mono h.1.size))

set_option maxHeartbeats 400000 in
theorem within_any (f t g u : Nat) (w : World) (hf : f < 18446744073709551616) (ht : t < 18446744073709551616) (hg : g < 18446744073709551616) (hu : u < 18446744073709551616) :
    Calls Try.prog 19 #[.agg #[.int .u64 f, .int .u64 t], .agg #[.int .u64 g, .int .u64 u]] w fun e w' => e = .returned (.bool (withinB f t g u)) ∧ Below w.heap.size w w' := by
  by_cases hw0 : (f == t) = true
  · have e : withinB f t g u = true := by simp [withinB, hw0]
    rw [e]
    have CW := Lib.hid fun W => whole_any f t W
    rw [hw0] at CW
    clear hw0 e
    go_enter Try.func19, Try.ntmps19
    go_wp2
    go_step3
    go_wp2_with (go_at_call 15; ((with_reducible refine (CW.out _).mono ?_); rintro e w1 ⟨rfl, hb1⟩))
    rw [Exit.noGoto_ret]
    go_ret
    exact ⟨rfl, (below2 w _ _).trans (hb1.mono (by simp; omega))⟩
  have hw : (f == t) = false := by simpa using hw0
  have HA := Lib.hid (each_all f t g u hw hf ht hg hu)
  have CW := Lib.hid fun W => whole_any f t W
  rw [hw] at CW
  have hn := pN_le f t
  have hm := pN_le g u
  have CF := Lib.hid fun k W => last_any (pF f t k) (pT f t k) W (by unfold pT; split <;> (try split) <;> omega)
  have CG := Lib.hid fun k W => last_any (pF g u k) (pT g u k) W (by unfold pT; split <;> (try split) <;> omega)
  generalize withinB f t g u = ans at *
  clear hf ht hg hu hw hw0
  go_enter Try.func19, Try.ntmps19
  go_wp2
  go_step3
  go_wp2_with (go_at_call 15; ((with_reducible refine (CW.out _).mono ?_); rintro e w1 ⟨rfl, hb1⟩; obtain ⟨hc1, hf1⟩ := bcell hb1))
  go_step3
  go_wp2_with (go_at_call 22; refine (pieces_any g u _).mono ?_; rintro e w2 ⟨g2, hg0, hg1, rfl, hcell, hb2⟩)
  have HC := Lib.hid hcell
  have HB := Lib.hid ((((below2 w (.cells #[.int .u64 (f : Nat), .int .u64 (t : Nat)] 24) (.cells #[.int .u64 (g : Nat), .int .u64 (u : Nat)] 24))).trans (hb1.mono (by simp; omega))).trans (hb2.mono (by have := hb1.size; simp at this; omega)))
  have HW := Lib.hid (hb1.trans (hb2.mono hb1.size))
  have hz2 : w.heap.size + 2 ≤ w2.heap.size := by have := HW.out.size; simpa using this
  clear hcell hc1 hf1 hb1 hb2 hg0
  generalize hmm : pN g u = m at *
  have HM := Lib.hid hmm
  clear hmm
  go_loopg [14] 3 (fun z s14 wx => ∃ (j : Nat), j + z = 3 ∧ j ≤ m ∧ s14 = .int .i64 j ∧ Hid (eachB f t g u j = ans) ∧ Below w2.heap.size w2 wx)
  case atStart => exact ⟨0, by omega, by omega, rfl, HA, Below.refl _ _⟩
  case round =>
    obtain ⟨j, hjz, hjm, rfl, HK, hbk⟩ := hrel
    obtain ⟨wo, rfl⟩ : ∃ wo : World, wo = wr := ⟨_, rfl⟩
    have hbz := hbk.size
    obtain ⟨hco, hfo⟩ := bcell (HW.out.trans (hbk.mono HW.out.size))
    have ha0 : wo.cell? ⟨w.heap.size, 0, none⟩ = some (.int .u64 (f : Nat)) := (hco w.heap.size 0 (by simp; omega)).trans (by go_simp)
    have ha1 : wo.cell? ⟨w.heap.size, 1, none⟩ = some (.int .u64 (t : Nat)) := (hco w.heap.size 1 (by simp; omega)).trans (by go_simp)
    have hzo : w.heap.size < wo.heap.size := by omega
    clear hco hfo
    by_cases hj : j < m
    · have b0 : decide (j < m) = true := by simp; omega
      obtain ⟨h1, h2⟩ := HC.out j (by omega)
      have hd1 : wo.cell? ⟨g2, j * 2, none⟩ = some (.int .u64 (pF g u j : Nat)) := (hbk.cell (p := ⟨g2, j * 2, none⟩) hg1).trans h1
      have hd2 : wo.cell? ⟨g2, j * 2 + 1, none⟩ = some (.int .u64 (pT g u j : Nat)) := (hbk.cell (p := ⟨g2, j * 2 + 1, none⟩) hg1).trans h2
      clear h1 h2
      have HBK := Lib.hid hbk
      clear hbk
      go_wp2_with (go_at_call 22; refine (pieces_any f t _).mono ?_; rintro e w3 ⟨g3, hg30, hg31, rfl, hcell3, hb3⟩)
      have HC3 := Lib.hid hcell3
      have HB3 := Lib.hid hb3
      clear hcell3 hg30
      have hz3 : wo.heap.size + 1 ≤ w3.heap.size := by have := hb3.size; simpa using this
      have hb3' : Below wo.heap.size wo w3 := ((Below.refl _ _).alloc (Nat.le_refl _) _).trans (hb3.mono (by simp))
      have HB3' := Lib.hid hb3'
      have hq0 : w3.cell? ⟨wo.heap.size, 0, none⟩ = some (.int .u64 (pF g u j : Nat)) := ((bcell hb3).1 wo.heap.size 0 (by simp)).trans (by go_simp)
      have hq1 : w3.cell? ⟨wo.heap.size, 1, none⟩ = some (.int .u64 (pT g u j : Nat)) := ((bcell hb3).1 wo.heap.size 1 (by simp)).trans (by go_simp)
      clear hb3 hb3' hd1 hd2 ha0 ha1
      generalize hnn : pN f t = n at *
      have HN := Lib.hid hnn
      clear hnn
      obtain ⟨go, rfl⟩ : ∃ go, go = gk := ⟨_, rfl⟩
      go_loopg [21] 3 (fun z s21 wx => ∃ (k : Nat), k + z = 3 ∧ k ≤ n ∧ s21 = .int .i64 k ∧ Hid (someB f t g u j k = someB f t g u j 0) ∧ Below w3.heap.size w3 wx)
      case atStart => exact ⟨0, by omega, by omega, rfl, rfl, Below.refl _ _⟩
      case round =>
        obtain ⟨k, hkz, hkn, rfl, HS, hbk3⟩ := hrel
        have hbz3 := hbk3.size
        by_cases hk : k < n
        · have b1 : decide (k < n) = true := by simp; omega
          obtain ⟨h1, h2⟩ := HC3.out k (by omega)
          have hp0 : wr.cell? ⟨g3, k * 2, none⟩ = some (.int .u64 (pF f t k : Nat)) := (hbk3.cell (p := ⟨g3, k * 2, none⟩) hg31).trans h1
          have hp1 : wr.cell? ⟨g3, k * 2 + 1, none⟩ = some (.int .u64 (pT f t k : Nat)) := (hbk3.cell (p := ⟨g3, k * 2 + 1, none⟩) hg31).trans h2
          have hr0 : wr.cell? ⟨wo.heap.size, 0, none⟩ = some (.int .u64 (pF g u j : Nat)) := (hbk3.cell (p := ⟨wo.heap.size, 0, none⟩) (by show wo.heap.size < _; omega)).trans hq0
          have hr1 : wr.cell? ⟨wo.heap.size, 1, none⟩ = some (.int .u64 (pT g u j : Nat)) := (hbk3.cell (p := ⟨wo.heap.size, 1, none⟩) (by show wo.heap.size < _; omega)).trans hq1
          clear h1 h2
          have HBK3 := Lib.hid hbk3
          clear hbk3
          have hzr : wo.heap.size < wr.heap.size := by omega
          by_cases hd : pF f t k ≤ pF g u j
          · have d1 : decide (pF f t k ≤ pF g u j) = true := by simpa using hd
            go_wp2
            generalize hwb : wr.alloc (.cells #[.int .u64 (pF f t k : Nat), .int .u64 (pT f t k : Nat)] 24) = wb
            have hbb : Below wr.heap.size wr wb := by rw [← hwb]; exact (Below.refl _ _).alloc (Nat.le_refl _) _
            have hzb : wb.heap.size = wr.heap.size + 1 := by rw [← hwb]; simp
            have gp0 : wb.cell? ⟨wr.heap.size, 0, none⟩ = some (.int .u64 (pF f t k : Nat)) := by rw [← hwb]; exact cell_new0 _ _ _ _
            have gp1 : wb.cell? ⟨wr.heap.size, 1, none⟩ = some (.int .u64 (pT f t k : Nat)) := by rw [← hwb]; exact cell_new1 _ _ _ _
            have gr0 : wb.cell? ⟨wo.heap.size, 0, none⟩ = some (.int .u64 (pF g u j : Nat)) := (hbb.cell (p := ⟨wo.heap.size, 0, none⟩) hzr).trans hr0
            have gr1 : wb.cell? ⟨wo.heap.size, 1, none⟩ = some (.int .u64 (pT g u j : Nat)) := (hbb.cell (p := ⟨wo.heap.size, 1, none⟩) hzr).trans hr1
            have HSS : Hid (∀ w', Below wb.heap.size wb w' → Below wb.heap.size wb w' ∧ (w'.cell? ⟨wr.heap.size, 0, none⟩ = some (.int .u64 (pF f t k : Nat)) ∧ w'.cell? ⟨wr.heap.size, 1, none⟩ = some (.int .u64 (pT f t k : Nat)) ∧ w'.cell? ⟨wo.heap.size, 0, none⟩ = some (.int .u64 (pF g u j : Nat)) ∧ w'.cell? ⟨wo.heap.size, 1, none⟩ = some (.int .u64 (pT g u j : Nat)))) := fun w' h =>
              ⟨h, (h.cell (p := ⟨wr.heap.size, 0, none⟩) (by show wr.heap.size < _; omega)).trans gp0, (h.cell (p := ⟨wr.heap.size, 1, none⟩) (by show wr.heap.size < _; omega)).trans gp1, (h.cell (p := ⟨wo.heap.size, 0, none⟩) (by show wo.heap.size < _; omega)).trans gr0, (h.cell (p := ⟨wo.heap.size, 1, none⟩) (by show wo.heap.size < _; omega)).trans gr1⟩
            have HBB := Lib.hid hbb
            have HZB := Lib.hid hzb
            clear hbb hzb gp0 gp1 gr0 gr1 hp0 hp1 hr0 hr1 hwb
            have CFk := Lib.hid (CF.out k)
            have CGj := Lib.hid (CG.out j)
            have HY := Lib.hid (some_yes (f := f) (t := t) (g := g) (u := u) (j := j) (k := k) (by rw [HN.out]; exact hk) hd)
            have HO := Lib.hid (some_no2 (f := f) (t := t) (g := g) (u := u) (j := j) (k := k) (by rw [HN.out]; exact hk))
            clear CF CG
            generalize lastN (pT f t k) = y1 at *
            generalize lastN (pT g u j) = y2 at *
            go_region_held3 (fun w' => Below wb.heap.size wb w' ∧ (w'.cell? ⟨wr.heap.size, 0, none⟩ = some (.int .u64 (pF f t k : Nat)) ∧ w'.cell? ⟨wr.heap.size, 1, none⟩ = some (.int .u64 (pT f t k : Nat)) ∧ w'.cell? ⟨wo.heap.size, 0, none⟩ = some (.int .u64 (pF g u j : Nat)) ∧ w'.cell? ⟨wo.heap.size, 1, none⟩ = some (.int .u64 (pT g u j : Nat)))) ((first | exact HSS.out _ ((Below.refl _ _).drew) | exact keep_step HSS.out (by assumption) (by assumption)))
              (first | (go_at_call 23; (with_reducible refine (CFk.out _).mono ?_); rintro e w4 ⟨rfl, hb4⟩) | (go_at_call 23; (with_reducible refine (CGj.out _).mono ?_); rintro e w4 ⟨rfl, hb4⟩))
            have hh : ∃ A : Prop, Below wb.heap.size wb w4 ∧ A := ⟨_, by assumption⟩
            have H4 := Lib.hid ((HBB.out.mono (Nat.le_of_lt hzr)).trans (hh.choose_spec.1.mono (by rw [HZB.out]; omega)))
            have H5 := Lib.hid (HBK3.out.trans ((HBB.out.mono hbz3).trans (hh.choose_spec.1.mono (by rw [HZB.out]; omega))))
            clear hh
            by_cases he : y2 ≤ y1
            · have d2 : decide (y2 ≤ y1) = true := by simpa using he
              have HSY := Lib.hid (HS.out.symm.trans (HY.out he))
              go_wp2
              go_roundg (go - 1)
              case measure => omega
              case rel => exact ⟨j + 1, by omega, by omega, by go_num, (each_yes (by rw [HM.out]; exact hj) HSY.out).symm.trans HK.out, HBK.out.trans ((HB3'.out.mono hbz).trans (H5.out.mono (by omega)))⟩
            · have d2 : decide (y2 ≤ y1) = false := by simpa using he
              have HSN := Lib.hid ((HO.out he).symm.trans HS.out)
              go_wp2
              go_roundg (gk - 1)
              case measure => omega
              case rel => exact ⟨k + 1, by omega, by omega, by go_num, HSN.out, H5.out⟩
          · have d1 : decide (pF f t k ≤ pF g u j) = false := by simpa using hd
            have HSN := Lib.hid ((some_no1 (f := f) (t := t) (g := g) (u := u) (j := j) (k := k) (by rw [HN.out]; exact hk) hd).symm.trans HS.out)
            go_wp2
            go_quiet (fail)
            go_wp2
            go_roundg (gk - 1)
            case measure => omega
            case rel => exact ⟨k + 1, by omega, by omega, by go_num, HSN.out, (HBK3.out.alloc hbz3 _).trans ⟨rfl, rfl, rfl, Nat.le_refl _, fun _ _ => rfl⟩⟩
        · obtain rfl : k = n := by omega
          have b1 : decide (k < k) = false := by simp
          have hs : someB f t g u j 0 = false := by
            rw [← HS.out, ← HN.out]
            exact some_end _ _ _ _ _
          have HR := Lib.hid (HK.out.symm.trans (each_no (by rw [HM.out]; exact hj) hs))
          have HE := Lib.hid (HB.out.trans ((HBK.out.trans ((HB3'.out.mono hbz).trans (hbk3.mono (by omega)))).mono (by omega)))
          clear hs hbk3
          go_wp2
          rw [Exit.noGoto_ret]
          go_ret
          exact ⟨by rw [HR.out]; rfl, HE.out⟩
    · obtain rfl : j = m := by omega
      have b0 : decide (j < j) = false := by simp
      have hr : ans = true := by
        rw [← HK.out, ← HM.out]
        exact each_end f t g u
      have HR := Lib.hid hr
      have HE := Lib.hid (HB.out.trans (hbk.mono (by omega)))
      clear hbk ha0 ha1 hr
      go_wp2
      rw [Exit.noGoto_ret]
      go_ret
      exact ⟨by rw [HR.out]; rfl, HE.out⟩
end Go.Proofs.Ytfddheioganmfaa
