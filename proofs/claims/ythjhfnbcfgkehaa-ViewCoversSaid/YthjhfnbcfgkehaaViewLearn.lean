/-
  Learn: what is newer is taken. (Written by tools/genVL.py.)
-/
import Derived.Test.YthjhfnbcfgkehaaViewJoin
namespace Go.Proofs.Ythjhfnbcfgkehaa
open Go.RowKit

/-- what is known behind it -/
theorem learn_pure {P Q : List PT} (hP : PFull P) (hQ : PInv Q) (hv : ∀ y, (at_ Q y).v = (at_ P y).v) {s : AO} (hm : s.may) (hs : s.Fit) (hf : ∃ p ∈ Q, p.x = s.f) (ht : ∃ p ∈ Q, p.x = s.t) :
    PFull (joinP (Q.map (upd s))) ∧ (newsP s Q = true → LearnPost (arcsP P) s true (arcsP (joinP (Q.map (upd s))))) ∧ (newsP s Q = false → LearnPost (arcsP P) s false (arcsP P)) := by
  have hM := hQ.map hm hs.e.2
  obtain ⟨hJ, hJv⟩ := hM.join
  have hk : ∀ y, y < 18446744073709551616 → kn (arcsP P) y = knP Q y := fun y hy => by rw [kn_parts hP hy]; exact (knP_v (hv y)).symm
  have hk2 : ∀ y, y < 18446744073709551616 → kn (arcsP (joinP (Q.map (upd s)))) y = learnt s (knP Q) y := fun y hy => by
    rw [kn_parts hJ hy, knP_v (hJv y), kn_map hQ hm hf ht hy]
  have hn : newsP s Q = true ↔ news (arcsP P) s := by
    rw [newsP_iff hQ hm hf ht]
    constructor
    · rintro ⟨x, h1, h2, h3⟩
      exact ⟨x, h1, h2, by rw [hk x h1]; exact h3⟩
    · rintro ⟨x, h1, h2, h3⟩
      exact ⟨x, h1, h2, by rw [← hk x h1]; exact h3⟩
  have hl : ∀ y, y < 18446744073709551616 → learnt s (knP Q) y = learnt s (kn (arcsP P)) y := fun y hy => by unfold learnt; rw [hk y hy]
  refine ⟨hJ, fun h => .inl ⟨hm, fun x hx => (hk2 x hx).trans (hl x hx), ⟨fun _ => hn.1 h, fun _ => rfl⟩⟩, fun h => .inl ⟨hm, fun x hx => ?_, ⟨(fun e => by cases e), fun e => ?_⟩⟩⟩
  · unfold learnt
    rw [if_neg]
    rintro ⟨h1, h2⟩
    rw [hn.2 ⟨x, hx, h1, h2⟩] at h
    cases h
  · rw [hn.2 e] at h
    cases h
/-- so far -/
def soFar (s : AO) (Q : List PT) (i : Nat) : List PT := (Q.take i).map (upd s) ++ Q.drop i
theorem soFar_at {s : AO} {Q : List PT} {i : Nat} : (soFar s Q i)[i]? = Q[i]? := by
  unfold soFar
  by_cases h : i < Q.length
  · rw [List.getElem?_append_right (by simp; omega), List.getElem?_drop]
    congr 1
    simp; omega
  · rw [List.getElem?_eq_none (by simp; omega), List.getElem?_eq_none (by omega)]
theorem soFar_len (s : AO) (Q : List PT) (i : Nat) : (soFar s Q i).length = Q.length := by
  unfold soFar
  simp; omega
theorem soFar_same {s : AO} {Q : List PT} {i : Nat} {p : PT} (h : Q[i]? = some p) (hu : upd s p = p) : soFar s Q (i + 1) = soFar s Q i := by
  unfold soFar
  obtain ⟨hl, rfl⟩ := List.getElem?_eq_some_iff.1 h
  rw [List.take_add_one, h, List.map_append, List.append_assoc]
  simp only [Option.toList_some, List.map_cons, List.map_nil, hu, List.cons_append, List.nil_append]
  rw [List.getElem_cons_drop]
theorem soFar_set {s : AO} {Q : List PT} {i : Nat} {p : PT} (h : Q[i]? = some p) : soFar s Q (i + 1) = (soFar s Q i).set i (upd s p) := by
  unfold soFar
  obtain ⟨hl, rfl⟩ := List.getElem?_eq_some_iff.1 h
  rw [List.take_add_one, h, List.map_append, List.append_assoc, List.set_append_right _ _ (by simp; omega), List.drop_eq_getElem_cons hl]
  simp only [Option.toList_some, List.map_cons, List.map_nil, List.cons_append, List.nil_append, List.length_map, List.length_take, Nat.min_eq_left (Nat.le_of_lt hl), Nat.sub_self, List.set_cons_zero]
theorem soFar_all (s : AO) {Q : List PT} {n : Nat} (h : Q.length = n) : soFar s Q n = Q.map (upd s) := by
  unfold soFar
  rw [List.take_of_length_le (by omega), List.drop_of_length_le (by omega), List.append_nil]
theorem newsP_snoc {s : AO} {Q : List PT} {i : Nat} {p : PT} (h : Q[i]? = some p) : newsP s (Q.take (i + 1)) = (newsP s (Q.take i) || (decide (p.e < s.e) && inB s.f s.t p.x)) := by
  unfold newsP
  rw [List.take_add_one, h, List.any_append]
  simp
/-- what Learn leaves -/
def LearnEnd (W : World) (g : Nat) (a : List AO) (F : List Nat) (s : AO) (e : Ending) (w' : World) : Prop :=
  ∃ b a1 F1, e = .returned (.bool b) ∧ VH w' g a1 F1 ∧ Touch F W w' ∧ (∀ q ∈ F1, q ∈ F ∨ W.heap.size ≤ q) ∧ LearnPost a s b a1
/-- what was cut -/
def LCut (W : World) (P : List PT) (s : AO) (v : Value) (w : World) : Prop :=
  ∃ A n c Q, v = .slice A n c ∧ PtRow w W.heap.size (.slice A n c) n Q ∧ PInv Q ∧ (∀ y, (at_ Q y).v = (at_ P y).v) ∧ (∃ p ∈ Q, p.x = s.f) ∧ (∃ p ∈ Q, p.x = s.t) ∧ n ≤ P.length + 2 ∧ Below W.heap.size W w
theorem VH.touch_ {w w' : World} {g : Nat} {a : List AO} {F G : List Nat} (h : VH w g a F) (t : Touch G w w') (hn : ∀ q ∈ F, q ∉ G) : VH w' g a F := by
  obtain ⟨P, A, n, c, h1, h2, h3, h4⟩ := h
  rcases h4 with ⟨rfl, rfl, rfl, rfl, rfl⟩ | ⟨q, rfl, hr, hq, rfl⟩
  · exact ⟨_, _, _, _, h1, h2, h3.touch t (hn g (by simp)), .inl ⟨rfl, rfl, rfl, rfl, rfl⟩⟩
  · exact ⟨_, _, _, _, h1, h2, h3.touch t (hn g (by simp)), .inr ⟨q, rfl, t.row hr (fun q' hq' => by obtain rfl : q = q' := Option.some.inj hq'; exact hn q (by simp)), hq, rfl⟩⟩
theorem VH.mem {w : World} {g : Nat} {a : List AO} {F : List Nat} (h : VH w g a F) : g ∈ F ∧ ∀ q ∈ F, q < w.heap.size := by
  obtain ⟨P, A, n, c, h1, h2, h3, h4⟩ := h
  rcases h4 with ⟨rfl, rfl, rfl, rfl, rfl⟩ | ⟨q, rfl, hr, hq, rfl⟩
  · exact ⟨by simp, fun q hq => by simp at hq; subst hq; exact h3.lt⟩
  · refine ⟨by simp, fun q' hq' => ?_⟩
    simp at hq'
    rcases hq' with rfl | rfl
    · exact h3.lt
    · exact (hr.lt _ rfl).2
set_option maxRecDepth 100000 in
set_option maxHeartbeats 4000000 in
theorem learn_any {W : World} {g : Nat} {a : List AO} {F : List Nat} (s : AO) (hs : s.Fit) (h : VH W g a F) (ha : a.length ≤ 10000) : Calls Try.prog 8 #[.pointer (some ⟨g, 0, none⟩), .agg s.cells] W (LearnEnd W g a F s) := by
  have HVH := Lib.hid h
  have bw : Below W.heap.size W (W.alloc (.cells s.cells 27)) := (Below.refl W.heap.size W).alloc (Nat.le_refl _) _
  have BW := Lib.hid bw
  have HNOT : Hid (¬ s.may → LearnEnd W g a F s (.returned (.bool false)) (W.alloc (.cells s.cells 27))) := fun hm =>
    ⟨false, a, F, rfl, h.touch_ (Touch.ofBelow (F := []) bw) (by simp), Touch.ofBelow bw, fun q hq => .inl hq, .inr ⟨hm, rfl, rfl⟩⟩
  by_cases q1 : s.e < 0
  · have d1 : decide (s.e < 0) = true := decide_eq_true q1
    clear h bw
    go_enter Try.func8, Try.ntmps8
    go_wp2
    go_ret
    exact HNOT.out fun hm => by have := hm.2.2; omega
  have d1 : decide (s.e < 0) = false := decide_eq_false q1
  by_cases q2 : s.n < 0
  · have d2 : decide (s.n < 0) = true := decide_eq_true q2
    clear h bw
    go_enter Try.func8, Try.ntmps8
    go_wp2
    go_ret
    exact HNOT.out fun hm => by have := hm.1; omega
  have d2 : decide (s.n < 0) = false := decide_eq_false q2
  by_cases q3 : 255 < s.n
  · have d3 : decide (255 < s.n) = true := decide_eq_true q3
    clear h bw
    go_enter Try.func8, Try.ntmps8
    go_wp2
    go_ret
    exact HNOT.out fun hm => by have := hm.2.1; omega
  have d3 : decide (255 < s.n) = false := decide_eq_false q3
  have hm : s.may := ⟨by omega, by omega, by omega⟩
  obtain ⟨P, A, n, c, hP, rfl, hv, h4⟩ := h
  have hfew := hP.few
  have HFEW : Hid (P.length ≤ 20001) := by show P.length ≤ 20001; omega
  have CR : Hid (∀ w, Below (W.alloc (.cells s.cells 27)).heap.size (W.alloc (.cells s.cells 27)) w → Calls Try.prog 19 #[.pointer (some ⟨g, 0, none⟩)] w (RingPost w P F)) := fun w hw => by
    have hw := bw.trans (hw.mono bw.size)
    refine ring_any (hv.below hw) ?_
    rcases h4 with h4 | ⟨q, h5, h6, h7⟩
    · exact .inl h4
    · exact .inr ⟨q, h5, pr_below h6 hw, h7⟩
  have HP := Lib.hid hP
  have HW1 := Lib.hid bw
  have HSS : Hid (∀ w', Below (W.alloc (.cells s.cells 27)).heap.size (W.alloc (.cells s.cells 27)) w' → Below (W.alloc (.cells s.cells 27)).heap.size (W.alloc (.cells s.cells 27)) w' ∧ w'.cell? ⟨W.heap.size, 0, none⟩ = some (.int .u64 (s.f : Nat)) ∧ w'.cell? ⟨W.heap.size, 1, none⟩ = some (.int .u64 (s.t : Nat))) := fun w' hw =>
    ⟨hw, (hw.cell (p := ⟨W.heap.size, 0, none⟩) (by simp)).trans (by go_simp), (hw.cell (p := ⟨W.heap.size, 1, none⟩) (by simp)).trans (by go_simp)⟩
  have HBX : Hid (∀ w', Below (W.alloc (.cells s.cells 27)).heap.size (W.alloc (.cells s.cells 27)) w' → w'.heap[W.heap.size]? = some (.cells s.cells 27)) := fun w' hw => (hw.block W.heap.size (by simp)).trans (heap_alloc_new W _)
  have HV := Lib.hid hv
  have h0 : g ∈ F ∧ g < W.heap.size := ⟨HVH.out.mem.1, hv.lt⟩
  obtain ⟨hgF, hgW⟩ := h0
  clear hfew hv h4 hP bw HNOT
  go_enter Try.func8, Try.ntmps8
  go_upto_region 4 with fail
  obtain ⟨wb, hwb⟩ : ∃ wb, W.alloc (.cells s.cells 27) = wb := ⟨_, rfl⟩
  rw [hwb] at CR HW1 HSS HBX BW ⊢
  have HWB := Lib.hid hwb
  clear hwb
  go_cut [6] (fun s6 wx => Hid (LCut wb P s s6 wx))
  case first =>
    refine wp_region_held_drew (S := (fun w0 => Below wb.heap.size wb w0 ∧ w0.cell? ⟨W.heap.size, 0, none⟩ = some (.int .u64 (s.f : Nat)) ∧ w0.cell? ⟨W.heap.size, 1, none⟩ = some (.int .u64 (s.t : Nat)))) (by kernel_rfl) ?_ (fun hHeld => ?_)
    · (try dsimp only); exact HSS.out _ (Below.refl _ _).drew
    refine wpAnyH_take (i := 0) (oi := ⟨_, _, _, _, _, _⟩) (v := ?_) rfl (by kernel_rfl) (by kernel_rfl) (by kernel_rfl) (fun _ _ _ h => h) (Or.inl ⟨by rfl, ?_⟩) (by assumption) ?_
    rotate_left
    · (intro wS hSw; (try dsimp only at hSw); go_simp <;> with_reducible rfl)
    try simp only [Act.put, List.setIfInBounds_toArray, List.set_cons_zero, List.set_cons_succ]
    refine wpAnyH_take (i := 2) (oi := ⟨_, _, _, _, _, _⟩) (v := ?_) rfl (by kernel_rfl) (by kernel_rfl) (by kernel_rfl) (fun _ _ _ h => h) (Or.inl ⟨by rfl, ?_⟩) (by assumption) ?_
    rotate_left
    · (intro wS hSw; (try dsimp only at hSw); go_simp <;> with_reducible rfl)
    try simp only [Act.put, List.setIfInBounds_toArray, List.set_cons_zero, List.set_cons_succ]
    refine wpAnyH_take (i := 3) (oi := ⟨_, _, _, _, _, _⟩) (v := ?_) rfl (by kernel_rfl) (by kernel_rfl) (by kernel_rfl) (fun _ _ _ h => h) (Or.inl ⟨by rfl, ?_⟩) (by assumption) ?_
    rotate_left
    · (intro wS hSw; (try dsimp only at hSw); go_simp <;> with_reducible rfl)
    try simp only [Act.put, List.setIfInBounds_toArray, List.set_cons_zero, List.set_cons_succ]
    refine wpAnyH_take (i := 4) (oi := ⟨_, _, _, _, _, _⟩) (v := ?_) rfl (by kernel_rfl) (by kernel_rfl) (by kernel_rfl) (fun _ _ _ h => h) (Or.inl ⟨by rfl, ?_⟩) (by assumption) ?_
    rotate_left
    · (intro wS hSw; (try dsimp only at hSw); go_simp <;> with_reducible rfl)
    try simp only [Act.put, List.setIfInBounds_toArray, List.set_cons_zero, List.set_cons_succ]
    refine wpAnyH_take (i := 5) (oi := ⟨_, _, _, _, _, _⟩) (v := ?_) rfl (by kernel_rfl) (by kernel_rfl) (by kernel_rfl) (fun _ _ _ h => h) (Or.inl ⟨by rfl, ?_⟩) (by assumption) ?_
    rotate_left
    · (intro wS hSw; (try dsimp only at hSw); go_simp <;> with_reducible rfl)
    try simp only [Act.put, List.setIfInBounds_toArray, List.set_cons_zero, List.set_cons_succ]
    refine wpAnyH_take (i := 6) (oi := ⟨_, _, _, _, _, _⟩) (v := ?_) rfl (by kernel_rfl) (by kernel_rfl) (by kernel_rfl) (fun _ _ _ h => h) (Or.inl ⟨by rfl, ?_⟩) (by assumption) ?_
    rotate_left
    · (intro wS hSw; (try dsimp only at hSw); go_simp <;> with_reducible rfl)
    try simp only [Act.put, List.setIfInBounds_toArray, List.set_cons_zero, List.set_cons_succ]
    refine wpAnyH_take (i := 7) (oi := ⟨_, _, _, _, _, _⟩) (v := ?_) rfl (by kernel_rfl) (by kernel_rfl) (by kernel_rfl) (fun _ _ _ h => h) (Or.inl ⟨by rfl, ?_⟩) (by assumption) ?_
    rotate_left
    · (intro wS hSw; (try dsimp only at hSw); go_simp <;> with_reducible rfl)
    try simp only [Act.put, List.setIfInBounds_toArray, List.set_cons_zero, List.set_cons_succ]
    refine wpAnyH_ready (rs := [1, 8]) (by kernel_rfl) (by simp) ?_
    refine AllReadyH.cons (o := ⟨_, _, _, _, _, _⟩) rfl (fun K hK => ?_) (AllReadyH.cons (o := ⟨_, _, _, _, _, _⟩) rfl (fun K hK => ?_) AllReadyH.nil)
    · go_simp
      go_at_call 19
      refine (CR.out _ (Below.refl _ _).drew).mono ?_
      rintro e w2 ⟨A2, n2, c2, rfl, hr2, -, hb2⟩
      have HB2 := Lib.hid (((Below.refl _ wb).drew).trans hb2)
      have HR2 := Lib.hid hr2
      clear hr2 hb2
      go_wp2_with fail
      refine hK.out _ _ (by (try dsimp only); exact HSS.out _ HB2.out) (fun hHeld => ?_)
      clear hK K
      try simp only [Act.put, List.setIfInBounds_toArray, List.set_cons_zero, List.set_cons_succ]
      refine wpAnyH_ready (rs := [8]) (by kernel_rfl) (by simp) ?_
      refine AllReadyH.cons (o := ⟨_, _, _, _, _, _⟩) rfl (fun K hK => ?_) AllReadyH.nil
      go_simp
      have HB3 : Hid (Below wb.heap.size wb (w2.alloc (.cells #[.int .u64 (s.f : Nat), .int .u64 (s.t : Nat)] 23))) := HB2.out.alloc HB2.out.size _
      refine hK.out _ _ (by (try dsimp only); exact HSS.out _ HB3.out) (fun hHeld => ?_)
      clear hK K
      try simp only [Act.put, List.setIfInBounds_toArray, List.set_cons_zero, List.set_cons_succ]
      have CU := Lib.hid (cut_any (b := w2.heap.size) (pr_below HR2.out ((Below.refl w2.heap.size w2).alloc (Nat.le_refl _) (.cells #[.int .u64 (s.f : Nat), .int .u64 (s.t : Nat)] 23))) (by have := pr_len HR2.out; have := HFEW.out; omega) HP.out.toPInv hs.f hs.t (heap_alloc_new w2 _))
      refine wpAnyH_ready (rs := [9]) (by kernel_rfl) (by simp) ?_
      refine AllReadyH.cons (o := ⟨_, _, _, _, _, _⟩) rfl (fun K hK => ?_) AllReadyH.nil
      go_simp
      go_at_call 18
      refine (CU.out).mono ?_
      rintro e w4 ⟨A4, n4, c4, Q, rfl, hr4, hQ, hv4, hf4, ht4, hn4, hb4⟩
      have HB4 := Lib.hid (acc HB3.out hb4)
      have HC : Hid (LCut wb P s (.slice A4 n4 c4) w4) := ⟨A4, n4, c4, Q, rfl, own_mono2 hr4 HB3.out.size, hQ, hv4, hf4, ht4, hn4, HB4.out⟩
      clear hr4 hQ hv4 hf4 ht4 hn4 hb4
      go_wp2_with fail
      refine hK.out _ _ (by (try dsimp only); exact HSS.out _ HB4.out) (fun hHeld => ?_)
      clear hK K
      try simp only [Act.put, List.setIfInBounds_toArray, List.set_cons_zero, List.set_cons_succ]
      refine wpAnyH_take (i := 10) (oi := ⟨_, _, _, _, _, _⟩) (v := ?_) rfl (by kernel_rfl) (by kernel_rfl) (by kernel_rfl) (fun _ _ _ h => h) (Or.inl ⟨by rfl, ?_⟩) (by assumption) ?_
      rotate_left
      · (intro wS hSw; (try dsimp only at hSw); go_simp <;> with_reducible rfl)
      try simp only [Act.put, List.setIfInBounds_toArray, List.set_cons_zero, List.set_cons_succ]
      refine wpAnyH_done (by kernel_rfl) ?_ _
      go_wp2_with fail
      go_meet
      exact HC
    · go_simp
      have HB2 : Hid (Below wb.heap.size wb (wb.drew.alloc (.cells #[.int .u64 (s.f : Nat), .int .u64 (s.t : Nat)] 23))) := ((Below.refl _ wb).drew).alloc (Nat.le_refl _) _
      refine hK.out _ _ (by (try dsimp only); exact HSS.out _ HB2.out) (fun hHeld => ?_)
      clear hK K
      try simp only [Act.put, List.setIfInBounds_toArray, List.set_cons_zero, List.set_cons_succ]
      refine wpAnyH_ready (rs := [1]) (by kernel_rfl) (by simp) ?_
      refine AllReadyH.cons (o := ⟨_, _, _, _, _, _⟩) rfl (fun K hK => ?_) AllReadyH.nil
      go_simp
      go_at_call 19
      refine (CR.out _ HB2.out).mono ?_
      rintro e w3 ⟨A2, n2, c2, rfl, hr2, -, hb2⟩
      have HB3 := Lib.hid (acc HB2.out hb2)
      have HP3 := Lib.hid ((hb2.block wb.heap.size (by simp)).trans (heap_alloc_new wb.drew _))
      have HR2 := Lib.hid hr2
      clear hr2 hb2
      go_wp2_with fail
      refine hK.out _ _ (by (try dsimp only); exact HSS.out _ HB3.out) (fun hHeld => ?_)
      clear hK K
      try simp only [Act.put, List.setIfInBounds_toArray, List.set_cons_zero, List.set_cons_succ]
      have CU := Lib.hid (cut_any (b := wb.heap.size) HR2.out (by have := pr_len HR2.out; have := HFEW.out; omega) HP.out.toPInv hs.f hs.t HP3.out)
      refine wpAnyH_ready (rs := [9]) (by kernel_rfl) (by simp) ?_
      refine AllReadyH.cons (o := ⟨_, _, _, _, _, _⟩) rfl (fun K hK => ?_) AllReadyH.nil
      go_simp
      go_at_call 18
      refine (CU.out).mono ?_
      rintro e w4 ⟨A4, n4, c4, Q, rfl, hr4, hQ, hv4, hf4, ht4, hn4, hb4⟩
      have HB4 := Lib.hid (acc HB3.out hb4)
      have HC : Hid (LCut wb P s (.slice A4 n4 c4) w4) := ⟨A4, n4, c4, Q, rfl, own_mono2 hr4 HB3.out.size, hQ, hv4, hf4, ht4, hn4, HB4.out⟩
      clear hr4 hQ hv4 hf4 ht4 hn4 hb4
      go_wp2_with fail
      refine hK.out _ _ (by (try dsimp only); exact HSS.out _ HB4.out) (fun hHeld => ?_)
      clear hK K
      try simp only [Act.put, List.setIfInBounds_toArray, List.set_cons_zero, List.set_cons_succ]
      refine wpAnyH_take (i := 10) (oi := ⟨_, _, _, _, _, _⟩) (v := ?_) rfl (by kernel_rfl) (by kernel_rfl) (by kernel_rfl) (fun _ _ _ h => h) (Or.inl ⟨by rfl, ?_⟩) (by assumption) ?_
      rotate_left
      · (intro wS hSw; (try dsimp only at hSw); go_simp <;> with_reducible rfl)
      try simp only [Act.put, List.setIfInBounds_toArray, List.set_cons_zero, List.set_cons_succ]
      refine wpAnyH_done (by kernel_rfl) ?_ _
      go_wp2_with fail
      go_meet
      exact HC
  case rest =>
    obtain ⟨A4, n4, c4, Q, rfl, hr4, hQ, hv4, hf4, ht4, hn4, hb4⟩ := hcut.out
    have hp4 : 0 < n4 := by rw [← pr_len hr4]; exact List.length_pos_iff.2 hQ.ne
    obtain ⟨q4, rfl⟩ := pr_at hr4 hp4
    have hq4 : wb.heap.size ≤ q4 := (hr4.lt q4 rfl).1
    have hnQ := pr_len hr4
    have hPU := learn_pure HP.out hQ hv4 hm hs hf4 ht4
    have hws : W.heap.size < wb.heap.size := by rw [← HWB.out]; simp
    have HNQ := Lib.hid hnQ
    have HPU := Lib.hid hPU
    have HQ := Lib.hid hQ
    have HR4 := Lib.hid hr4
    have HB4 := Lib.hid hb4
    have hn5 : n4 ≤ 90000 := by have := HFEW.out; omega
    clear hcut CR HSS hr4 hQ hv4 hf4 ht4 hb4 hnQ hPU hn4
    go_wp2_with fail
    go_loopg [5, 38] (n4 + 1) (fun gh s5 s38 wx => ∃ i : Nat, i + gh = n4 + 1 ∧ i ≤ n4 ∧ s5 = .bool (newsP s (Q.take i)) ∧ s38 = .int .i64 (i : Nat) ∧ Hid (Below wb.heap.size wb wx) ∧ Hid (PtRow wx wb.heap.size (.slice (some ⟨q4, 0, none⟩) n4 c4) n4 (soFar s Q i)))
    case atStart => exact ⟨0, by omega, by omega, rfl, rfl, HB4.out, HR4.out⟩
    case round =>
      obtain ⟨i, hig, hin, rfl, rfl, HB, HR⟩ := hrel
      by_cases hlt : i < n4
      · have i1 : (i : Int) < (n4 : Int) := by omega
        obtain ⟨p, hp⟩ : ∃ p, Q[i]? = some p := ⟨_, List.getElem?_eq_getElem (by rw [HNQ.out]; exact hlt)⟩
        have HNS := Lib.hid (newsP_snoc (s := s) hp)
        have HPI := Lib.hid hp
        have HRA := Lib.hid (pr_range HR.out (soFar_at.trans hp))
        obtain ⟨nb, hnb⟩ : ∃ nb, newsP s (Q.take i) = nb := ⟨_, rfl⟩
        rw [hnb] at HNS ⊢
        have hsz : (Try.prog.info? 50).map (·.size) = some p.cells.toList.length := pt_info
        have hszp : (Try.prog.info? 50).map (·.size) = some p.cells.size := pt_info
        have hold : (#[.int .u64 0, .int .i64 0, .int .i64 0] : Array Value).size = p.cells.size := rfl
        have hone := pt_one p
        clear hp hnb
        go_upto_region 8 with (first
          | (refine wpList_load_mid rfl 50 (.tmp 41) rfl q4 (i * 3) rfl p.cells.toList _ HRA.out Try.underlying50 rfl hsz ?_)
          | (with_reducible (show wpList _ _ _ (⟨none, Op.store _ (Operand.tmp 8) _, _, _, _, _⟩ :: _) _ _); go_must (refine wpList_store_row rfl 50 (.tmp 8) (.tmp 42) rfl wr.heap.size p.cells rfl rfl 50 #[.int .u64 0, .int .i64 0, .int .i64 0] (heap_alloc_new wr _) hszp hold hone ?_)))
        obtain ⟨b3, hb3⟩ : ∃ b3, wr.heap.size = b3 := ⟨_, rfl⟩
        have B3 := bx_new wr #[.int .u64 0, .int .i64 0, .int .i64 0] p.cells 50
        have h3 : ((wr.alloc (.cells #[.int .u64 0, .int .i64 0, .int .i64 0] 50)).setRow wr.heap.size p.cells).heap[wr.heap.size]? = some (.cells p.cells 50) := bx_row _ (heap_alloc_new wr _)
        obtain ⟨w3, hw3⟩ : ∃ w3, (wr.alloc (.cells #[.int .u64 0, .int .i64 0, .int .i64 0] 50)).setRow wr.heap.size p.cells = w3 := ⟨_, rfl⟩
        rw [hw3] at B3 h3 ⊢
        have HB3 := Lib.hid (acc HB.out B3)
        have HR3 := Lib.hid (pr_below HR.out B3)
        rw [hb3] at h3 ⊢
        have hbo := HBX.out w3 HB3.out
        have HC3 : Hid (∀ w, Below w3.heap.size w3 w → w.cell? ⟨b3, 0, none⟩ = some (.int .u64 (p.x : Nat)) ∧ w.cell? ⟨W.heap.size, 2, none⟩ = some (.int .i64 s.n) ∧ w.cell? ⟨W.heap.size, 3, none⟩ = some (.int .i64 s.e)) := fun w hw => by
          have e1 := (hw.block b3 (bx_lt h3)).trans h3
          have e2 := HBX.out w (acc HB3.out hw)
          exact ⟨by rw [Lib.cell_of_heap e1]; rfl, by rw [Lib.cell_of_heap e2]; rfl, by rw [Lib.cell_of_heap e2]; rfl⟩
        have x0 : w3.cell? ⟨b3, 0, none⟩ = some (.int .u64 (p.x : Nat)) := by rw [Lib.cell_of_heap h3]; rfl
        have x2 : w3.cell? ⟨b3, 2, none⟩ = some (.int .i64 p.e) := by rw [Lib.cell_of_heap h3]; rfl
        have y0 : w3.cell? ⟨W.heap.size, 0, none⟩ = some (.int .u64 (s.f : Nat)) := by rw [Lib.cell_of_heap hbo]; rfl
        have y1 : w3.cell? ⟨W.heap.size, 1, none⟩ = some (.int .u64 (s.t : Nat)) := by rw [Lib.cell_of_heap hbo]; rfl
        have y3 : w3.cell? ⟨W.heap.size, 3, none⟩ = some (.int .i64 s.e) := by rw [Lib.cell_of_heap hbo]; rfl
        have hpx : p.x < 18446744073709551616 := HQ.out.lt p (List.mem_of_getElem? HPI.out)
        clear hw3 B3 h3 hb3 HRA hbo
        cases d4 : decide (p.e < s.e) with
        | false =>
          have hup : upd s p = p := if_neg (fun z => by have := of_decide_eq_false d4; omega)
          have HUP := Lib.hid hup
          rw [d4] at HNS
          clear hup
          go_wp2
          go_roundg (gk - 1)
          case measure => omega
          case rel => exact ⟨i + 1, by omega, by omega, by rw [HNS.out]; simp, by go_num, HB3, by rw [soFar_same HPI.out HUP.out]; exact HR3⟩
        | true =>
          have CI : Hid (Calls Try.prog 10 #[.agg #[.int .u64 (s.f : Nat), .int .u64 (s.t : Nat)], .int .u64 (p.x : Nat)] w3 fun e w' => e = .returned (.bool (inB s.f s.t p.x)) ∧ Below w3.heap.size w3 w') := in_any s.f s.t p.x w3 hs.f hs.t hpx
          obtain ⟨ib, hib⟩ : ∃ ib, inB s.f s.t p.x = ib := ⟨_, rfl⟩
          rw [hib] at CI
          rw [d4, hib] at HNS
          cases ib with
          | false =>
            have HUP : Hid (upd s p = p) := if_neg (fun z => by rw [hib] at z; cases z.2)
            clear hib
            go_wp2_with (go_at_call 10; (with_reducible refine (CI.out).mono ?_); rintro e w5 ⟨rfl, hb5⟩; have HB5 := Lib.hid hb5; clear hb5)
            go_roundg (gk - 1)
            case measure => omega
            case rel => exact ⟨i + 1, by omega, by omega, by rw [HNS.out]; simp, by go_num, acc HB3.out HB5.out, by rw [soFar_same HPI.out HUP.out]; exact pr_below HR3.out HB5.out⟩
          | true =>
            have HUP : Hid (upd s p = ⟨p.x, s.n, s.e⟩) := if_pos ⟨of_decide_eq_true d4, hib⟩
            have hth : Hid (∀ w, Below w3.heap.size w3 w → w.there q4 (i * 3) 3) := fun w hw => by
              have h9 := pr_below HR3.out hw
              exact row_there h9 (by rw [rowC_length pt_size, soFar_len, HNQ.out]; omega)
            clear hib
            go_wp2_with (first
              | (go_at_call 10; (with_reducible refine (CI.out).mono ?_); rintro e w5 ⟨rfl, hb5⟩; obtain ⟨x5, y5, z5⟩ := HC3.out _ hb5; have hth5 := Lib.hid (hth.out _ hb5); have HB5 := Lib.hid hb5; clear hb5)
              | (refine wpList_store_mid rfl 50 (.tmp 64) (.tmp 63) rfl q4 (i * 3) #[.int .u64 (p.x : Nat), .int .i64 s.n, .int .i64 s.e] rfl rfl hth5.out pt_info (pt_one ⟨p.x, s.n, s.e⟩) ?_))
            have HR5 : Hid (PtRow (w5.setCells q4 (i * 3) [.int .u64 (p.x : Nat), .int .i64 s.n, .int .i64 s.e]) wb.heap.size (.slice (some ⟨q4, 0, none⟩) n4 c4) n4 (soFar s Q (i + 1))) := by
              have h9 := pr_below HR3.out HB5.out
              have e := own_setCells [.int .u64 (p.x : Nat), .int .i64 s.n, .int .i64 s.e] w5 (i * 3) _ h9 (by rw [rowC_length pt_size, soFar_len, HNQ.out]; show i * 3 + 3 ≤ _; omega)
              rw [rowC_put pt_size (soFar s Q i) i ⟨p.x, s.n, s.e⟩ (by rw [soFar_len, HNQ.out]; exact hlt), ← HUP.out, ← soFar_set HPI.out] at e
              exact e
            have HT5 : Hid (Below wb.heap.size wb (w5.setCells q4 (i * 3) [.int .u64 (p.x : Nat), .int .i64 s.n, .int .i64 s.e])) :=
              Touch.acc (acc HB3.out HB5.out) (touch_setCells (F := [q4]) (by simp) _ w5 w5 _ (Touch.refl _ _)) (fun q hq => by simp at hq; omega)
            clear x5 y5 z5 hth5
            go_roundg (gk - 1)
            case measure => omega
            case rel => exact ⟨i + 1, by omega, by omega, by rw [HNS.out]; simp, by go_num, HT5, HR5⟩
      · obtain rfl : i = n4 := by omega
        obtain ⟨nb, hnb⟩ : ∃ nb, newsP s Q = nb := ⟨_, rfl⟩
        have ht : newsP s (Q.take i) = nb := by rw [List.take_of_length_le (by rw [HNQ.out]; exact Nat.le_refl _)]; exact hnb
        rw [ht]
        have HNB := Lib.hid hnb
        have HWX := Lib.hid (acc HW1.out HB.out)
        clear hnb ht
        cases nb with
        | false =>
          go_wp2_with fail
          go_ret
          exact ⟨false, _, F, rfl, HVH.out.touch_ (Touch.ofBelow (F := []) HWX.out) (by simp), Touch.ofBelow HWX.out, fun q hq => .inl hq, HPU.out.2.2 HNB.out⟩
        | true =>
          have HR6 := HR.out
          rw [soFar_all s HNQ.out] at HR6
          have CJ := Lib.hid (join_any (Q.map (upd s)) q4 c4 i wb.heap.size wr (by omega) HR6 (by simp [HQ.out.ne]))
          clear HR6
          go_wp2_with (go_at_call 20; (with_reducible refine (CJ.out).mono ?_); rintro e w6 ⟨m, rfl, hr6, ht6⟩; have HT6 : Hid (Below W.heap.size W w6) := Touch.acc HWX.out ht6 (fun q hq => by have : q = q4 := (by simpa [Value.ownBlock, eq_comm] using hq); omega); have hv6 := HV.out.below HT6.out; have k6 := hv6.val; have f6 := hv6.free; have HV6 := Lib.hid hv6; have HR6 := Lib.hid hr6; clear hr6 ht6 hv6)
          go_ret
          refine ⟨true, _, [g, q4], rfl, ⟨joinP (Q.map (upd s)), some ⟨q4, 0, none⟩, m, c4, HPU.out.1, rfl, HV6.out.set _, .inr ⟨q4, rfl, ?_, by omega, rfl⟩⟩, ?_, fun q hq => ?_, HPU.out.2.1 HNB.out⟩
          · exact own_mono2 (((Touch.refl [g] w6).set (p := ⟨g, 0, none⟩) (.inl (by simp)) _).row HR6.out (fun q hq z => by obtain rfl : q4 = q := Option.some.inj hq; simp at z; omega)) (Nat.zero_le _)
          · exact (Touch.ofBelow HT6.out).set (.inl hgF) _
          · simp at hq
            rcases hq with rfl | rfl
            · exact .inl hgF
            · exact .inr (by omega)
end Go.Proofs.Ythjhfnbcfgkehaa
