/-
  LinkFar, walked: a letter that is too far ahead is passed by, and must come again.
-/
import Derived.Test.YtfemdfidfomchaaLinkLawA
namespace Go.Proofs.Ytfemdfidfomchaa
open Go.RowKit

theorem fol_one {c : Nat} {r : LR} {ts : List LR} {c' : Nat} {ks' : List (Nat × LR)} (h : Follows c [(c + 1, r)] ts c' ks') : ts = [r] ∧ c' = c + 1 ∧ ks' = [] := by
  cases h with
  | stop h => exact absurd rfl (h (c + 1, r) (by simp))
  | step hx he hf h =>
    rename_i i x ts
    rcases i with _ | i
    · simp at hx
      subst hx
      simp at h
      cases h with
      | stop h => exact ⟨rfl, rfl, rfl⟩
      | step hx he hf h => simp at hx
    · simp at hx
theorem fol_none {c q : Nat} {r : LR} {ts : List LR} {c' : Nat} {ks' : List (Nat × LR)} (h : Follows c [(q, r)] ts c' ks') (hq : q ≠ c + 1) : ts = [] ∧ c' = c ∧ ks' = [(q, r)] := by
  cases h with
  | stop h => exact ⟨rfl, rfl, rfl⟩
  | step hx he hf h =>
    rename_i i x ts
    have := List.mem_of_getElem? hx
    simp at this
    subst this
    exact absurd he hq
theorem fol_empty {c : Nat} {ts : List LR} {c' : Nat} {ks' : List (Nat × LR)} (h : Follows c [] ts c' ks') : ts = [] ∧ c' = c ∧ ks' = [] := by
  cases h with
  | stop h => exact ⟨rfl, rfl, rfl⟩
  | step hx he hf h => simp at hx
theorem fol_two {c q : Nat} {r r1 : LR} {ts : List LR} {c' : Nat} {ks' : List (Nat × LR)} (h : Follows c [(q, r), (c + 1, r1)] ts c' ks') (hq : q ≠ c + 1) : (q = c + 2 ∧ ts = [r1, r] ∧ c' = c + 2 ∧ ks' = []) ∨ (q ≠ c + 2 ∧ ts = [r1] ∧ c' = c + 1 ∧ ks' = [(q, r)]) := by
  cases h with
  | stop h => exact absurd rfl (h (c + 1, r1) (by simp))
  | step hx he hf h =>
    rename_i i x ts
    rcases i with _ | _ | i
    · simp at hx
      subst hx
      exact absurd he hq
    · simp at hx
      subst hx
      simp at h
      by_cases hq2 : q = c + 2
      · subst hq2
        obtain ⟨rfl, rfl, rfl⟩ := fol_one h
        exact .inl ⟨rfl, rfl, rfl, rfl⟩
      · obtain ⟨rfl, rfl, rfl⟩ := fol_none h (by omega)
        exact .inr ⟨hq2, rfl, rfl, rfl⟩
    · simp at hx
abbrev faS (c : Nat) (ks : List (Nat × LR)) : LS := ⟨1, 2, 0, [], c, ks, 0⟩
theorem faS_ok {c : Nat} {ks : List (Nat × LR)} (h : c ≤ 1000) (hk : ks.length ≤ 10) : (faS c ks).Ok := ⟨by simp, by simp, by show c ≤ _; omega, by simp, by show ks.length ≤ _; omega, by simp⟩
/-- how it stands ahead of the k-th letter -/
def FarAt (a k c : Nat) (ks : List (Nat × LR)) : Prop :=
  (a = 1 ∧ k = 1 ∧ c = 1 ∧ ks = []) ∨ (2 ≤ a ∧ a ≤ 64 ∧ ((k < a ∧ c + 1 = k ∧ ks = [(a, LR.light 1 (a : Nat))]) ∨ (k = a ∧ c = a ∧ ks = []))) ∨ (64 < a ∧ c + 1 = k ∧ ks = [])
theorem known_far (c : Nat) (ks : List (Nat × LR)) : (faS c ks).known 0 = faS c ks := by
  show LS.mk 1 2 0 (List.drop ((faS c ks).gone 0) []) c ks 0 = _
  rw [List.drop_nil]
theorem took_far {c q : Nat} {ks : List (Nat × LR)} {r : LR} (h1 : c < q) (h2 : q ≤ c + 64) (h3 : hasSeq ks q = false) : (faS c ks).took 0 q r = faS c (ks ++ [(q, r)]) := by
  unfold LS.took
  rw [known_far, show (faS c ks).keeps q = true by
    unfold LS.keeps
    show (decide (c < q) && (decide (q ≤ c + 64) && !hasSeq ks q)) = true
    rw [decide_eq_true h1, decide_eq_true h2, h3]
    rfl, if_pos rfl]
theorem took_past {c q : Nat} {ks : List (Nat × LR)} {r : LR} (h2 : c + 64 < q) : (faS c ks).took 0 q r = faS c ks := by
  unfold LS.took
  rw [known_far, show (faS c ks).keeps q = false by
    unfold LS.keeps
    show (decide (c < q) && (decide (q ≤ c + 64) && !hasSeq ks q)) = false
    rw [decide_eq_false (show ¬ q ≤ c + 64 by omega), Bool.false_and, Bool.and_false]]
  rfl
theorem far_step {W w : World} {g a k c : Nat} {ks : List (Nat × LR)} (h : LX W w [] g (faS c ks)) (hr : FarAt a k c ks) (hk : 1 ≤ k) (hka : k < a) (ha : a ≤ 100) :
    Calls Try.prog 17 #[.pointer (some ⟨g, 0, none⟩), .agg (lpCells 2 1 (k : Nat) 0 1 (k : Nat))] w fun e w' => ∃ B m cc c' ks', e = .returned (.tuple #[.slice B m cc, .agg (lpCells 1 2 0 (c' : Nat) 0 0), .bool true]) ∧ c' = c + m ∧ FarAt a (k + 1) c' ks' ∧ LX W w' [] g (faS c' ks') := by
  have hkl : ks.length ≤ 10 := by
    rcases hr with ⟨_, _, _, rfl⟩ | ⟨_, _, ⟨_, _, rfl⟩ | ⟨_, _, rfl⟩⟩ | ⟨_, _, rfl⟩ <;> simp
  have hc : c ≤ 200 := by
    rcases hr with z | ⟨_, _, z | z⟩ | z <;> omega
  have hck : c + 1 = k := by
    rcases hr with z | ⟨_, _, z | z⟩ | z <;> omega
  refine (h.gotNew (faS_ok (by omega) hkl) (by show ks.length < _; omega) 2 1 0 1 (k : Nat) k ⟨rfl, rfl, by simp, by simp, by simp⟩ (by omega) (by omega)).mono ?_
  rintro e w' ⟨ts, c', ks', B, cc, a1, rfl, a3, _, _⟩
  rw [took_far (by omega) (by omega) (by
    rcases hr with ⟨_, _, _, rfl⟩ | ⟨_, _, ⟨_, _, rfl⟩ | ⟨_, _, rfl⟩⟩ | ⟨_, _, rfl⟩
    · rfl
    · unfold hasSeq; simp; omega
    · rfl
    · rfl)] at a1 a3
  have a3 : LX W w' _ g (faS c' ks') := a3
  have a1 : Follows c (ks ++ [(k, LR.light 1 (k : Nat))]) ts c' ks' := a1
  refine ⟨B, ts.length, cc, c', ks', rfl, ?_, ?_, a3.less (by simp)⟩
  · have := a1.counts
    omega
  · subst hck
    rcases hr with ⟨rfl, z, _, rfl⟩ | ⟨z1, z2, ⟨z3, _, rfl⟩ | ⟨z3, _, rfl⟩⟩ | ⟨z1, _, rfl⟩
    · omega
    · rcases fol_two a1 (by omega) with ⟨y1, rfl, rfl, rfl⟩ | ⟨y1, rfl, rfl, rfl⟩
      · exact .inr (.inl ⟨z1, z2, .inr ⟨by omega, by omega, rfl⟩⟩)
      · exact .inr (.inl ⟨z1, z2, .inl ⟨by omega, rfl, rfl⟩⟩)
    · omega
    · obtain ⟨rfl, rfl, rfl⟩ := fol_one a1
      exact .inr (.inr ⟨z1, rfl, rfl⟩)
/-- the first packet -/
theorem far_first {W w : World} {g a : Nat} (h : LX W w [] g (LS.new 1 2)) (h1 : 1 ≤ a) (ha : a ≤ 100) :
    Calls Try.prog 17 #[.pointer (some ⟨g, 0, none⟩), .agg (lpCells 2 1 (a : Nat) 0 1 (a : Nat))] w fun e w' => ∃ B cc ks', e = .returned (.tuple #[.slice B (if a = 1 then 1 else 0) cc, .agg (lpCells 1 2 0 ((if a = 1 then 1 else 0 : Nat) : Nat) 0 0), .bool true]) ∧ FarAt a 1 (if a = 1 then 1 else 0) ks' ∧ LX W w' [] g (faS (if a = 1 then 1 else 0) ks') := by
  refine (h.gotNew (new_ok 1 2) (by simp) 2 1 0 1 (a : Nat) a ⟨rfl, rfl, by simp, by simp, by simp⟩ (by omega) (by omega)).mono ?_
  rintro e w' ⟨ts, c', ks', B, cc, a1, rfl, a3, _, _⟩
  have a3 : LX W w' _ g {(faS 0 []).took 0 a (LR.light 1 (a : Nat)) with came := c', kept := ks'} := a3
  have a1 : Follows ((faS 0 []).took 0 a (LR.light 1 (a : Nat))).came ((faS 0 []).took 0 a (LR.light 1 (a : Nat))).kept ts c' ks' := a1
  by_cases h64 : 64 < a
  · rw [took_past (by omega)] at a1 a3
    obtain ⟨rfl, rfl, rfl⟩ := fol_empty a1
    have hn : ¬ a = 1 := by omega
    simp only [if_neg hn]
    exact ⟨B, cc, [], rfl, .inr (.inr ⟨h64, rfl, rfl⟩), a3.less (by simp)⟩
  · rw [took_far (by omega) (by omega) rfl] at a1 a3
    by_cases hn : a = 1
    · subst hn
      obtain ⟨rfl, rfl, rfl⟩ := fol_one a1
      exact ⟨B, cc, [], rfl, .inl ⟨rfl, rfl, rfl, rfl⟩, a3.less (by simp)⟩
    · obtain ⟨rfl, rfl, rfl⟩ := fol_none a1 (show a ≠ 0 + 1 by omega)
      simp only [if_neg hn]
      exact ⟨B, cc, _, rfl, .inr (.inl ⟨by omega, by omega, .inl ⟨by omega, rfl, rfl⟩⟩), a3.less (by simp)⟩
set_option maxRecDepth 20000 in
set_option maxHeartbeats 16000000 in
theorem linkFarA (a : Nat) (W : World) (h1 : 1 ≤ a) (ha : a ≤ 100) (hc : a = 1) :
    Calls Try.prog 6 #[.int .i64 (a : Nat)] W fun e w' => e = .returned (.bool true) ∧ Below W.heap.size W w' := by
  have CA := Lib.hid aliveL
  have CN : Hid (∀ w, Below W.heap.size W w → Calls Try.prog 11 #[.int .i64 1, .int .i64 2] w fun e w' => e = .returned (.pointer (some ⟨w.heap.size, 0, none⟩)) ∧ LX W w' [] w.heap.size (LS.new 1 2) ∧ Below w.heap.size w w') := fun w h => LX.new h (by simp) 1 2
  have CF : Hid (∀ w g, LX W w [] g (LS.new 1 2) → Calls Try.prog 17 #[.pointer (some ⟨g, 0, none⟩), .agg (lpCells 2 1 (a : Nat) 0 1 (a : Nat))] w fun e w' => ∃ B cc ks', e = .returned (.tuple #[.slice B 1 cc, .agg (lpCells 1 2 0 1 0 0), .bool true]) ∧ FarAt a 1 1 ks' ∧ LX W w' [] g (faS 1 ks')) := fun w g h => by
    have := far_first (a := a) h h1 ha
    simp only [if_pos hc] at this
    exact this
  have CS : Hid (∀ w g k c ks, LX W w [] g (faS c ks) → FarAt a k c ks → 1 ≤ k → k < a → Calls Try.prog 17 #[.pointer (some ⟨g, 0, none⟩), .agg (lpCells 2 1 (k : Nat) 0 1 (k : Nat))] w fun e w' => ∃ B m cc c' ks', e = .returned (.tuple #[.slice B m cc, .agg (lpCells 1 2 0 (c' : Nat) 0 0), .bool true]) ∧ c' = c + m ∧ FarAt a (k + 1) c' ks' ∧ LX W w' [] g (faS c' ks')) := fun w g k c ks h hr hk hka => far_step h hr hk hka ha
  have CC : Hid (∀ w g c ks, LX W w [] g (faS c ks) → Calls Try.prog 22 #[.pointer (some ⟨g, 0, none⟩)] w fun e w' => e = .returned (.int .i64 (c : Nat)) ∧ w' = w) := fun w g c ks h => h.came
  have CR : Hid (∀ w g ks, LX W w [] g (faS 1 ks) → FarAt a 1 1 ks → Calls Try.prog 23 #[.pointer (some ⟨g, 0, none⟩)] w fun e w' => e = .returned (.bool true) ∧ w' = w) := fun w g ks h hf => by
    refine h.rest.mono ?_
    rintro e w' ⟨rfl, h2⟩
    refine ⟨?_, h2⟩
    rcases hf with ⟨_, _, _, rfl⟩ | ⟨_, _, ⟨_, _, rfl⟩ | ⟨_, _, rfl⟩⟩ | ⟨_, _, rfl⟩ <;> first | rfl | omega
  have d0 : decide ((a : Int) < 1) = false := by simp; omega
  have d1 : decide (100 < (a : Int)) = false := by simp; omega
  have d2 : ((a : Int) == 1) = true := by simp; omega
  have d3 : decide (64 < (a : Int)) = false := by simp; omega
  have HHC := Lib.hid hc
  clear hc
  go_enter Try.func6, Try.ntmps6
  go_upto_region 7 with (first
    | (go_at_call 10; (with_reducible refine (CA.out _).mono ?_); rintro e w1 ⟨rfl, h1⟩; have H1 := Lib.hid h1; clear h1)
    | (go_at_call 11; (with_reducible refine (CN.out _ H1.out).mono ?_); rintro e w2 ⟨rfl, h2, _⟩; have H2 := Lib.hid h2; clear h2)
    | (go_at_call 17; (with_reducible refine (CF.out _ _ H2.out).mono ?_); rintro e w3 ⟨B, cc, ks, rfl, hf3, h3⟩; have HF3 := Lib.hid hf3; have H3 := Lib.hid (lx_boxed h3 1 2 0 1 0 0); have z3 := bg_cell (lp_box w3 1 2 0 1 0 0).2 (o := 3) rfl; clear h3 hf3)
    | (with_reducible (show wpList _ _ _ (⟨none, Op.store _ (Operand.tmp 5) _, _, _, _, _⟩ :: _) _ _); go_must (refine wpList_store_lp rfl (.tmp 5) (.tmp 35) rfl w3.heap.size 1 2 0 1 0 0 rfl rfl (heap_alloc_new w3 _) ?_)))
  obtain ⟨g, hg⟩ : ∃ g, w1.heap.size = g := ⟨_, rfl⟩
  obtain ⟨w4, hw4⟩ : ∃ w4, (w3.alloc (.cells (lpCells 0 0 0 0 0 0) 53)).setRow w3.heap.size (lpCells 1 2 0 1 0 0) = w4 := ⟨_, rfl⟩
  rw [hg] at H3 H2 ⊢
  rw [hw4] at H3 z3 ⊢
  have cr : Hid (∀ n, Calls Try.prog 23 #[.pointer (some ⟨g, 0, none⟩)] (w4.drewN n) fun e w' => e = .returned (.bool true) ∧ w' = w4.drewN n) := fun n => CR.out _ _ _ (H3.out.below (below_drewN (Below.refl _ _) n)) HF3.out
  have c3 : Hid (∀ n, Calls Try.prog 22 #[.pointer (some ⟨g, 0, none⟩)] (w4.drewN n) fun e w' => e = .returned (.int .i64 1) ∧ w' = w4.drewN n) := fun n => CC.out _ _ _ _ (H3.out.below (below_drewN (Below.refl _ _) n))
  clear hg hw4 H1 H2 CA CN CF CR
  go_quiet (first | (go_at_call 22; exact Calls.quiet_of_same (c3.out _)) | (go_at_call 23; exact Calls.quiet_of_same (cr.out _)))
  go_wp2
  clear z3 d2 d0 d1
  go_loopg [7, 8] a (fun gh s7 s8 wx => ∃ (k c : Nat) (ks : List (Nat × LR)), k + gh = a + 1 ∧ 1 ≤ k ∧ k ≤ a ∧ c ≤ 1000 ∧ s7 = .int .i64 (c : Nat) ∧ s8 = .int .i64 (k : Nat) ∧ Hid (LX W wx [] g (faS c ks)) ∧ Hid (FarAt a k c ks))
  case atStart => exact ⟨1, 1, ks, by omega, by omega, by omega, by omega, rfl, rfl, H3.out.below (below_drewN (Below.refl _ _) _), HF3.out⟩
  case round =>
    obtain ⟨k, c, ks2, hig, hk1, hka, hcl, rfl, rfl, HX, HFA⟩ := hrel
    by_cases hlt : k < a
    · have cs := Lib.hid (CS.out wr g k c ks2 HX.out HFA.out hk1 hlt)
      have hz : ∀ m : Nat, m ≤ 1000 → IntKind.i64.wrap ((c : Int) + (m : Nat)) = ((c + m : Nat) : Int) := fun m hm => by rw [IntKind.wrap_i64]; omega
      have HZ := Lib.hid hz
      clear CS cr c3 CC H3 hz
      go_wp2_with (first
        | (go_at_call 17; (with_reducible refine (cs.out).mono ?_); rintro e w5 ⟨B5, m5, cc5, c5, ks5, rfl, hc5, hf5, h5⟩; have hm5 : m5 ≤ 1000 := (by have h9 : c5 ≤ 200 := (by rcases hf5 with z | ⟨_, _, z | z⟩ | z <;> omega); omega); have hz := HZ.out m5 hm5; have hc5' : c5 ≤ 1000 := (by rcases hf5 with z | ⟨_, _, z | z⟩ | z <;> omega); have HC5 := Lib.hid hc5; have HF5 := Lib.hid hf5; have H5 := Lib.hid (lx_boxed h5 1 2 0 (c5 : Nat) 0 0); clear hf5 h5 hc5)
        | (with_reducible (show wpList _ _ _ (⟨none, Op.store _ (Operand.tmp 10) _, _, _, _, _⟩ :: _) _ _); go_must (refine wpList_store_lp rfl (.tmp 10) (.tmp 80) rfl w5.heap.size 1 2 0 (c5 : Nat) 0 0 rfl rfl (heap_alloc_new w5 _) ?_)))
      go_roundg (gk - 1)
      case measure => omega
      case rel => exact ⟨k + 1, c5, ks5, by omega, by omega, by omega, hc5', by rw [HC5.out]; rfl, by go_num, H5, HF5⟩
    · obtain rfl : k = a := by omega
      have hcw : ((c : Int) = (k : Int)) := by
        have hc := HHC.out
        rcases HFA.out with z | ⟨_, _, z | z⟩ | z <;> omega
      have cc := Lib.hid (CC.out wr g c ks2 HX.out)
      rw [hcw] at cc ⊢
      have hz9 : IntKind.i64.wrap ((k : Int) - 1) = (k : Int) - 1 := by rw [IntKind.wrap_i64]; omega
      clear CS cr c3 CC H3
      go_wp2_with (go_at_call 22; (with_reducible refine (cc.out).mono ?_); rintro e w8 ⟨rfl, hw8⟩)
      go_ret
      subst hw8
      exact ⟨rfl, HX.out.base⟩
set_option maxRecDepth 20000 in
set_option maxHeartbeats 16000000 in
theorem linkFarB (a : Nat) (W : World) (h1 : 1 ≤ a) (ha : a ≤ 100) (hc : 2 ≤ a ∧ a ≤ 64) :
    Calls Try.prog 6 #[.int .i64 (a : Nat)] W fun e w' => e = .returned (.bool true) ∧ Below W.heap.size W w' := by
  have CA := Lib.hid aliveL
  have CN : Hid (∀ w, Below W.heap.size W w → Calls Try.prog 11 #[.int .i64 1, .int .i64 2] w fun e w' => e = .returned (.pointer (some ⟨w.heap.size, 0, none⟩)) ∧ LX W w' [] w.heap.size (LS.new 1 2) ∧ Below w.heap.size w w') := fun w h => LX.new h (by simp) 1 2
  have CF : Hid (∀ w g, LX W w [] g (LS.new 1 2) → Calls Try.prog 17 #[.pointer (some ⟨g, 0, none⟩), .agg (lpCells 2 1 (a : Nat) 0 1 (a : Nat))] w fun e w' => ∃ B cc ks', e = .returned (.tuple #[.slice B 0 cc, .agg (lpCells 1 2 0 0 0 0), .bool true]) ∧ FarAt a 1 0 ks' ∧ LX W w' [] g (faS 0 ks')) := fun w g h => by
    have := far_first (a := a) h h1 ha
    simp only [if_neg (show ¬ a = 1 by omega)] at this
    exact this
  have CS : Hid (∀ w g k c ks, LX W w [] g (faS c ks) → FarAt a k c ks → 1 ≤ k → k < a → Calls Try.prog 17 #[.pointer (some ⟨g, 0, none⟩), .agg (lpCells 2 1 (k : Nat) 0 1 (k : Nat))] w fun e w' => ∃ B m cc c' ks', e = .returned (.tuple #[.slice B m cc, .agg (lpCells 1 2 0 (c' : Nat) 0 0), .bool true]) ∧ c' = c + m ∧ FarAt a (k + 1) c' ks' ∧ LX W w' [] g (faS c' ks')) := fun w g k c ks h hr hk hka => far_step h hr hk hka ha
  have CC : Hid (∀ w g c ks, LX W w [] g (faS c ks) → Calls Try.prog 22 #[.pointer (some ⟨g, 0, none⟩)] w fun e w' => e = .returned (.int .i64 (c : Nat)) ∧ w' = w) := fun w g c ks h => h.came
  have CR : Hid (∀ w g ks, LX W w [] g (faS 0 ks) → FarAt a 1 0 ks → Calls Try.prog 23 #[.pointer (some ⟨g, 0, none⟩)] w fun e w' => e = .returned (.bool false) ∧ w' = w) := fun w g ks h hf => by
    refine h.rest.mono ?_
    rintro e w' ⟨rfl, h2⟩
    refine ⟨?_, h2⟩
    rcases hf with ⟨_, _, _, rfl⟩ | ⟨_, _, ⟨_, _, rfl⟩ | ⟨_, _, rfl⟩⟩ | ⟨_, _, rfl⟩ <;> first | rfl | omega
  have d0 : decide ((a : Int) < 1) = false := by simp; omega
  have d1 : decide (100 < (a : Int)) = false := by simp; omega
  have d2 : ((a : Int) == 1) = false := by simp; omega
  have d3 : decide (64 < (a : Int)) = false := by simp; omega
  have HHC := Lib.hid hc
  clear hc
  go_enter Try.func6, Try.ntmps6
  go_upto_region 7 with (first
    | (go_at_call 10; (with_reducible refine (CA.out _).mono ?_); rintro e w1 ⟨rfl, h1⟩; have H1 := Lib.hid h1; clear h1)
    | (go_at_call 11; (with_reducible refine (CN.out _ H1.out).mono ?_); rintro e w2 ⟨rfl, h2, _⟩; have H2 := Lib.hid h2; clear h2)
    | (go_at_call 17; (with_reducible refine (CF.out _ _ H2.out).mono ?_); rintro e w3 ⟨B, cc, ks, rfl, hf3, h3⟩; have HF3 := Lib.hid hf3; have H3 := Lib.hid (lx_boxed h3 1 2 0 0 0 0); have z3 := bg_cell (lp_box w3 1 2 0 0 0 0).2 (o := 3) rfl; clear h3 hf3)
    | (with_reducible (show wpList _ _ _ (⟨none, Op.store _ (Operand.tmp 5) _, _, _, _, _⟩ :: _) _ _); go_must (refine wpList_store_lp rfl (.tmp 5) (.tmp 35) rfl w3.heap.size 1 2 0 0 0 0 rfl rfl (heap_alloc_new w3 _) ?_)))
  obtain ⟨g, hg⟩ : ∃ g, w1.heap.size = g := ⟨_, rfl⟩
  obtain ⟨w4, hw4⟩ : ∃ w4, (w3.alloc (.cells (lpCells 0 0 0 0 0 0) 53)).setRow w3.heap.size (lpCells 1 2 0 0 0 0) = w4 := ⟨_, rfl⟩
  rw [hg] at H3 H2 ⊢
  rw [hw4] at H3 z3 ⊢
  have cr : Hid (∀ n, Calls Try.prog 23 #[.pointer (some ⟨g, 0, none⟩)] (w4.drewN n) fun e w' => e = .returned (.bool false) ∧ w' = w4.drewN n) := fun n => CR.out _ _ _ (H3.out.below (below_drewN (Below.refl _ _) n)) HF3.out
  have c3 : Hid (∀ n, Calls Try.prog 22 #[.pointer (some ⟨g, 0, none⟩)] (w4.drewN n) fun e w' => e = .returned (.int .i64 0) ∧ w' = w4.drewN n) := fun n => CC.out _ _ _ _ (H3.out.below (below_drewN (Below.refl _ _) n))
  clear hg hw4 H1 H2 CA CN CF CR
  go_quiet (first | (go_at_call 22; exact Calls.quiet_of_same (c3.out _)) | (go_at_call 23; exact Calls.quiet_of_same (cr.out _)))
  go_wp2
  clear z3 d2 d0 d1
  go_loopg [7, 8] a (fun gh s7 s8 wx => ∃ (k c : Nat) (ks : List (Nat × LR)), k + gh = a + 1 ∧ 1 ≤ k ∧ k ≤ a ∧ c ≤ 1000 ∧ s7 = .int .i64 (c : Nat) ∧ s8 = .int .i64 (k : Nat) ∧ Hid (LX W wx [] g (faS c ks)) ∧ Hid (FarAt a k c ks))
  case atStart => exact ⟨1, 0, ks, by omega, by omega, by omega, by omega, rfl, rfl, H3.out.below (below_drewN (Below.refl _ _) _), HF3.out⟩
  case round =>
    obtain ⟨k, c, ks2, hig, hk1, hka, hcl, rfl, rfl, HX, HFA⟩ := hrel
    by_cases hlt : k < a
    · have cs := Lib.hid (CS.out wr g k c ks2 HX.out HFA.out hk1 hlt)
      have hz : ∀ m : Nat, m ≤ 1000 → IntKind.i64.wrap ((c : Int) + (m : Nat)) = ((c + m : Nat) : Int) := fun m hm => by rw [IntKind.wrap_i64]; omega
      have HZ := Lib.hid hz
      clear CS cr c3 CC H3 hz
      go_wp2_with (first
        | (go_at_call 17; (with_reducible refine (cs.out).mono ?_); rintro e w5 ⟨B5, m5, cc5, c5, ks5, rfl, hc5, hf5, h5⟩; have hm5 : m5 ≤ 1000 := (by have h9 : c5 ≤ 200 := (by rcases hf5 with z | ⟨_, _, z | z⟩ | z <;> omega); omega); have hz := HZ.out m5 hm5; have hc5' : c5 ≤ 1000 := (by rcases hf5 with z | ⟨_, _, z | z⟩ | z <;> omega); have HC5 := Lib.hid hc5; have HF5 := Lib.hid hf5; have H5 := Lib.hid (lx_boxed h5 1 2 0 (c5 : Nat) 0 0); clear hf5 h5 hc5)
        | (with_reducible (show wpList _ _ _ (⟨none, Op.store _ (Operand.tmp 10) _, _, _, _, _⟩ :: _) _ _); go_must (refine wpList_store_lp rfl (.tmp 10) (.tmp 80) rfl w5.heap.size 1 2 0 (c5 : Nat) 0 0 rfl rfl (heap_alloc_new w5 _) ?_)))
      go_roundg (gk - 1)
      case measure => omega
      case rel => exact ⟨k + 1, c5, ks5, by omega, by omega, by omega, hc5', by rw [HC5.out]; rfl, by go_num, H5, HF5⟩
    · obtain rfl : k = a := by omega
      have hcw : ((c : Int) = (k : Int)) := by
        have hc := HHC.out
        rcases HFA.out with z | ⟨_, _, z | z⟩ | z <;> omega
      have cc := Lib.hid (CC.out wr g c ks2 HX.out)
      rw [hcw] at cc ⊢
      have hz9 : IntKind.i64.wrap ((k : Int) - 1) = (k : Int) - 1 := by rw [IntKind.wrap_i64]; omega
      clear CS cr c3 CC H3
      go_wp2_with (go_at_call 22; (with_reducible refine (cc.out).mono ?_); rintro e w8 ⟨rfl, hw8⟩)
      go_ret
      subst hw8
      exact ⟨rfl, HX.out.base⟩
set_option maxRecDepth 20000 in
set_option maxHeartbeats 16000000 in
theorem linkFarC (a : Nat) (W : World) (h1 : 1 ≤ a) (ha : a ≤ 100) (hc : 64 < a) :
    Calls Try.prog 6 #[.int .i64 (a : Nat)] W fun e w' => e = .returned (.bool true) ∧ Below W.heap.size W w' := by
  have CA := Lib.hid aliveL
  have CN : Hid (∀ w, Below W.heap.size W w → Calls Try.prog 11 #[.int .i64 1, .int .i64 2] w fun e w' => e = .returned (.pointer (some ⟨w.heap.size, 0, none⟩)) ∧ LX W w' [] w.heap.size (LS.new 1 2) ∧ Below w.heap.size w w') := fun w h => LX.new h (by simp) 1 2
  have CF : Hid (∀ w g, LX W w [] g (LS.new 1 2) → Calls Try.prog 17 #[.pointer (some ⟨g, 0, none⟩), .agg (lpCells 2 1 (a : Nat) 0 1 (a : Nat))] w fun e w' => ∃ B cc ks', e = .returned (.tuple #[.slice B 0 cc, .agg (lpCells 1 2 0 0 0 0), .bool true]) ∧ FarAt a 1 0 ks' ∧ LX W w' [] g (faS 0 ks')) := fun w g h => by
    have := far_first (a := a) h h1 ha
    simp only [if_neg (show ¬ a = 1 by omega)] at this
    exact this
  have CS : Hid (∀ w g k c ks, LX W w [] g (faS c ks) → FarAt a k c ks → 1 ≤ k → k < a → Calls Try.prog 17 #[.pointer (some ⟨g, 0, none⟩), .agg (lpCells 2 1 (k : Nat) 0 1 (k : Nat))] w fun e w' => ∃ B m cc c' ks', e = .returned (.tuple #[.slice B m cc, .agg (lpCells 1 2 0 (c' : Nat) 0 0), .bool true]) ∧ c' = c + m ∧ FarAt a (k + 1) c' ks' ∧ LX W w' [] g (faS c' ks')) := fun w g k c ks h hr hk hka => far_step h hr hk hka ha
  have CC : Hid (∀ w g c ks, LX W w [] g (faS c ks) → Calls Try.prog 22 #[.pointer (some ⟨g, 0, none⟩)] w fun e w' => e = .returned (.int .i64 (c : Nat)) ∧ w' = w) := fun w g c ks h => h.came
  have CR : Hid (∀ w g ks, LX W w [] g (faS 0 ks) → FarAt a 1 0 ks → Calls Try.prog 23 #[.pointer (some ⟨g, 0, none⟩)] w fun e w' => e = .returned (.bool true) ∧ w' = w) := fun w g ks h hf => by
    refine h.rest.mono ?_
    rintro e w' ⟨rfl, h2⟩
    refine ⟨?_, h2⟩
    rcases hf with ⟨_, _, _, rfl⟩ | ⟨_, _, ⟨_, _, rfl⟩ | ⟨_, _, rfl⟩⟩ | ⟨_, _, rfl⟩ <;> first | rfl | omega
  have d0 : decide ((a : Int) < 1) = false := by simp; omega
  have d1 : decide (100 < (a : Int)) = false := by simp; omega
  have d2 : ((a : Int) == 1) = false := by simp; omega
  have d3 : decide (64 < (a : Int)) = true := by simp; omega
  have HHC := Lib.hid hc
  clear hc
  go_enter Try.func6, Try.ntmps6
  go_upto_region 7 with (first
    | (go_at_call 10; (with_reducible refine (CA.out _).mono ?_); rintro e w1 ⟨rfl, h1⟩; have H1 := Lib.hid h1; clear h1)
    | (go_at_call 11; (with_reducible refine (CN.out _ H1.out).mono ?_); rintro e w2 ⟨rfl, h2, _⟩; have H2 := Lib.hid h2; clear h2)
    | (go_at_call 17; (with_reducible refine (CF.out _ _ H2.out).mono ?_); rintro e w3 ⟨B, cc, ks, rfl, hf3, h3⟩; have HF3 := Lib.hid hf3; have H3 := Lib.hid (lx_boxed h3 1 2 0 0 0 0); have z3 := bg_cell (lp_box w3 1 2 0 0 0 0).2 (o := 3) rfl; clear h3 hf3)
    | (with_reducible (show wpList _ _ _ (⟨none, Op.store _ (Operand.tmp 5) _, _, _, _, _⟩ :: _) _ _); go_must (refine wpList_store_lp rfl (.tmp 5) (.tmp 35) rfl w3.heap.size 1 2 0 0 0 0 rfl rfl (heap_alloc_new w3 _) ?_)))
  obtain ⟨g, hg⟩ : ∃ g, w1.heap.size = g := ⟨_, rfl⟩
  obtain ⟨w4, hw4⟩ : ∃ w4, (w3.alloc (.cells (lpCells 0 0 0 0 0 0) 53)).setRow w3.heap.size (lpCells 1 2 0 0 0 0) = w4 := ⟨_, rfl⟩
  rw [hg] at H3 H2 ⊢
  rw [hw4] at H3 z3 ⊢
  have cr : Hid (∀ n, Calls Try.prog 23 #[.pointer (some ⟨g, 0, none⟩)] (w4.drewN n) fun e w' => e = .returned (.bool true) ∧ w' = w4.drewN n) := fun n => CR.out _ _ _ (H3.out.below (below_drewN (Below.refl _ _) n)) HF3.out
  have c3 : Hid (∀ n, Calls Try.prog 22 #[.pointer (some ⟨g, 0, none⟩)] (w4.drewN n) fun e w' => e = .returned (.int .i64 0) ∧ w' = w4.drewN n) := fun n => CC.out _ _ _ _ (H3.out.below (below_drewN (Below.refl _ _) n))
  clear hg hw4 H1 H2 CA CN CF CR
  go_quiet (first | (go_at_call 22; exact Calls.quiet_of_same (c3.out _)) | (go_at_call 23; exact Calls.quiet_of_same (cr.out _)))
  go_wp2
  clear z3 d2 d0 d1
  go_loopg [7, 8] a (fun gh s7 s8 wx => ∃ (k c : Nat) (ks : List (Nat × LR)), k + gh = a + 1 ∧ 1 ≤ k ∧ k ≤ a ∧ c ≤ 1000 ∧ s7 = .int .i64 (c : Nat) ∧ s8 = .int .i64 (k : Nat) ∧ Hid (LX W wx [] g (faS c ks)) ∧ Hid (FarAt a k c ks))
  case atStart => exact ⟨1, 0, ks, by omega, by omega, by omega, by omega, rfl, rfl, H3.out.below (below_drewN (Below.refl _ _) _), HF3.out⟩
  case round =>
    obtain ⟨k, c, ks2, hig, hk1, hka, hcl, rfl, rfl, HX, HFA⟩ := hrel
    by_cases hlt : k < a
    · have cs := Lib.hid (CS.out wr g k c ks2 HX.out HFA.out hk1 hlt)
      have hz : ∀ m : Nat, m ≤ 1000 → IntKind.i64.wrap ((c : Int) + (m : Nat)) = ((c + m : Nat) : Int) := fun m hm => by rw [IntKind.wrap_i64]; omega
      have HZ := Lib.hid hz
      clear CS cr c3 CC H3 hz
      go_wp2_with (first
        | (go_at_call 17; (with_reducible refine (cs.out).mono ?_); rintro e w5 ⟨B5, m5, cc5, c5, ks5, rfl, hc5, hf5, h5⟩; have hm5 : m5 ≤ 1000 := (by have h9 : c5 ≤ 200 := (by rcases hf5 with z | ⟨_, _, z | z⟩ | z <;> omega); omega); have hz := HZ.out m5 hm5; have hc5' : c5 ≤ 1000 := (by rcases hf5 with z | ⟨_, _, z | z⟩ | z <;> omega); have HC5 := Lib.hid hc5; have HF5 := Lib.hid hf5; have H5 := Lib.hid (lx_boxed h5 1 2 0 (c5 : Nat) 0 0); clear hf5 h5 hc5)
        | (with_reducible (show wpList _ _ _ (⟨none, Op.store _ (Operand.tmp 10) _, _, _, _, _⟩ :: _) _ _); go_must (refine wpList_store_lp rfl (.tmp 10) (.tmp 80) rfl w5.heap.size 1 2 0 (c5 : Nat) 0 0 rfl rfl (heap_alloc_new w5 _) ?_)))
      go_roundg (gk - 1)
      case measure => omega
      case rel => exact ⟨k + 1, c5, ks5, by omega, by omega, by omega, hc5', by rw [HC5.out]; rfl, by go_num, H5, HF5⟩
    · obtain rfl : k = a := by omega
      have hcw : ((c : Int) = (k : Int) - 1) := by
        have hc := HHC.out
        rcases HFA.out with z | ⟨_, _, z | z⟩ | z <;> omega
      have cc := Lib.hid (CC.out wr g c ks2 HX.out)
      rw [hcw] at cc ⊢
      have hz9 : IntKind.i64.wrap ((k : Int) - 1) = (k : Int) - 1 := by rw [IntKind.wrap_i64]; omega
      clear CS cr c3 CC H3
      go_wp2_with (go_at_call 22; (with_reducible refine (cc.out).mono ?_); rintro e w8 ⟨rfl, hw8⟩)
      go_ret
      subst hw8
      exact ⟨rfl, HX.out.base⟩
theorem linkFar_any (a : Int) (W : World) (_a0 : -9223372036854775808 ≤ a) (_a1 : a ≤ 9223372036854775807) :
    Calls Try.prog 6 #[.int .i64 a] W fun e w' => e = .returned (.bool true) ∧ Below W.heap.size W w' := by
  have CA := Lib.hid aliveL
  by_cases c0 : a < 1
  · have d0 : decide (a < 1) = true := by simp; omega
    go_enter Try.func6, Try.ntmps6
    go_wp2_with (go_at_call 10; (with_reducible refine (CA.out _).mono ?_); rintro e w1 ⟨rfl, h1⟩)
    go_ret
    exact ⟨rfl, h1⟩
  have d0 : decide (a < 1) = false := by simp; omega
  by_cases c1 : 100 < a
  · have d1 : decide (100 < a) = true := by simp; omega
    go_enter Try.func6, Try.ntmps6
    go_wp2_with (go_at_call 10; (with_reducible refine (CA.out _).mono ?_); rintro e w1 ⟨rfl, h1⟩)
    go_ret
    exact ⟨rfl, h1⟩
  have d1 : decide (100 < a) = false := by simp; omega
  clear d0 d1
  obtain ⟨a, rfl⟩ := Int.eq_ofNat_of_zero_le (show 0 ≤ a by omega)
  by_cases h1 : a = 1
  · exact linkFarA a W (by omega) (by omega) h1
  by_cases h2 : a ≤ 64
  · exact linkFarB a W (by omega) (by omega) ⟨by omega, h2⟩
  exact linkFarC a W (by omega) (by omega) (by omega)
end Go.Proofs.Ytfemdfidfomchaa
