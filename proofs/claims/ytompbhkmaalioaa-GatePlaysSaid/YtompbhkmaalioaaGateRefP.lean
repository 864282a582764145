/-
  The document's gate: Point. (genGR.py)
-/
import Derived.Test.YtompbhkmaalioaaGateRefT
import Derived.Test.YtompbhkmaalioaaHeldTill
import Derived.Deep.DeepCutAuto
namespace Go.Proofs.Ytompbhkmaalioaa
open Go.RowKit

theorem run_append_gps {w : World} {base : Nat} {A : Option Addr} {c n : Nat} {l : List GP} (h : w.ownsRow base 56 4 (.slice A n c) n (gpC l)) (hl : n ≤ 100000) :
    ∃ A4 c4 w4, (Builtin.append_ #[33, 33] 33 #[.slice none 0 0, .slice A n c]).run Try.prog w = .ok (.slice A4 n c4) w4 ∧ w4.ownsRow w.heap.size 56 4 (.slice A4 n c4) n (gpC l) ∧ Below w.heap.size w w4 := by
  obtain ⟨i0, z0, hi, hz, hsL, hbL, hzc⟩ := infoGP_
  obtain ⟨v', w', hr, h2, h3, h4⟩ := run_append_any (P := Try.prog) w w.heap.size 33 33 56 i0 z0 4 32 Try.underlying33 hi hz hsL hbL hzc (by decide) (.slice none 0 0) 0 [] (World.ownsRow_nil _ _ _ _) _ n (gpC l) (From.own h) (gp_one _) (by unfold maxLen; omega) (by omega) (Nat.le_refl _)
  simp only [Nat.zero_add, List.nil_append] at h2
  obtain ⟨A4, c4, rfl⟩ := own_slice h2
  exact ⟨A4, c4, w', hr, h2, (Below.refl w.heap.size w).grown h3 (Nat.le_refl _) (fun z hz => by cases hz)⟩
theorem gp_old {w w1 : World} {p : GP} (hb : Below (w.alloc (.cells p.cells 56)).heap.size (w.alloc (.cells p.cells 56)) w1) :
    ∀ j u, (gpC [p])[j]? = some u → w1.cell? ((⟨w.heap.size, 0, none⟩ : Addr).add j) = some u := by
  intro j u hj
  refine Eq.trans ?_ (gp_new w p j u hj)
  rw [Go.WideShapes.add_plain]
  exact hb.cell (by simp)
set_option maxRecDepth 20000 in
set_option maxHeartbeats 4000000 in
theorem refPoint_any {W : World} {r : Nat} {b : Bool} {f t : Nat} {l : List GP} {V : Value} (h : RG W r b f t l V) (pf pt : Nat) (nd : Int) (hl : l.length ≤ 100000) :
    Calls Try.prog 11 #[.pointer (some ⟨r, 0, none⟩), .agg #[.int .u64 (pf : Nat), .int .u64 (pt : Nat)], .int .i64 nd] W fun e w' => ∃ V', e = .returned (.tuple #[]) ∧ RG w' r b f t (l ++ [⟨pf, pt, nd, 0⟩]) V' ∧ Touch [r] W w' ∧ ∀ q, V'.ownBlock = some q → W.heap.size ≤ q := by
  obtain ⟨i0, z0, hi0, hz, hsL, hbL, hzc⟩ := infoGP_
  obtain ⟨n, hn⟩ : ∃ n, l.length = n := ⟨_, rfl⟩
  have hv := h.v
  rw [hn] at hv hl
  obtain ⟨A, c, rfl⟩ := own_slice hv
  obtain ⟨w1, hw1⟩ : ∃ w1, W.alloc (.cells #[.int .u64 (pf : Nat), .int .u64 (pt : Nat)] 27) = w1 := ⟨_, rfl⟩
  obtain ⟨qa, hqa⟩ : ∃ q, W.heap.size = q := ⟨_, rfl⟩
  have H1 : Hid (Below W.heap.size W w1) := by rw [← hw1]; exact (Below.refl _ _).alloc (Nat.le_refl _) _
  have BA := arcBox_new W pf pt
  rw [hw1, hqa] at BA
  have HR := Lib.hid (h.below H1.out)
  have HSS : Hid (∀ w', Below w1.heap.size w1 w' → w'.cell? ⟨r, 3, none⟩ = some (.slice A n c) ∧ w'.cell? ⟨qa, 0, none⟩ = some (.int .u64 (pf : Nat)) ∧ w'.cell? ⟨qa, 1, none⟩ = some (.int .u64 (pt : Nat))) := fun w' hb =>
    ⟨(hb.cell (p := ⟨r, 3, none⟩) HR.out.lt).trans (rg_cell HR.out.hg rfl), (BA.below hb).1, (BA.below hb).2⟩
  have HFR : Hid (∀ w', Below w1.heap.size w1 w' → w'.frozen? ⟨r, 3, none⟩ = false) := fun w' hb => Lib.frozen_of_heap ((hb.block r HR.out.lt).trans HR.out.hg) 3
  have HROW : Hid (∀ w', Below w1.heap.size w1 w' → w'.ownsRow 0 56 4 (.slice A n c) n (gpC l)) := fun w' hb => own_step (own_step hv H1.out) hb
  have HB0 : Hid (Below w1.heap.size w1 w1.drew) := (Below.refl _ _).drew
  have HN := Lib.hid hn
  clear h hv BA hn
  go_enter Try.func11, Try.ntmps11
  go_upto_region 1 with fail
  (try rw [hw1])
  (try rw [hqa])
  clear hw1 hqa
  refine wp_region_till (fun w' => w'.cell? ⟨r, 3, none⟩ = some (.slice A n c) ∧ w'.cell? ⟨qa, 0, none⟩ = some (.int .u64 (pf : Nat)) ∧ w'.cell? ⟨qa, 1, none⟩ = some (.int .u64 (pt : Nat))) 13 (by kernel_rfl) ?_ (fun hHeld => ?_)
  · (try dsimp only); exact HSS.out _ HB0.out
  refine wpAnyT_pure (i := 0) (oi := ⟨_, _, _, _, _, _⟩) (v := ?_) rfl (by kernel_rfl) (by kernel_rfl) (by kernel_rfl) (fun _ _ _ h => h) (by kernel_rfl) (Or.inl ⟨by rfl, ?_⟩) (by assumption) ?_
  rotate_left
  · (intro wS hSw; (try dsimp only at hSw); go_simp <;> with_reducible rfl)
  try simp only [Act.put, List.setIfInBounds_toArray, List.set_cons_zero, List.set_cons_succ]
  refine wpAnyT_pure (i := 1) (oi := ⟨_, _, _, _, _, _⟩) (v := ?_) rfl (by kernel_rfl) (by kernel_rfl) (by kernel_rfl) (fun _ _ _ h => h) (by kernel_rfl) (Or.inl ⟨by rfl, ?_⟩) (by assumption) ?_
  rotate_left
  · (intro wS hSw; (try dsimp only at hSw); go_simp <;> with_reducible rfl)
  try simp only [Act.put, List.setIfInBounds_toArray, List.set_cons_zero, List.set_cons_succ]
  refine wpAnyT_pure (i := 2) (oi := ⟨_, _, _, _, _, _⟩) (v := ?_) rfl (by kernel_rfl) (by kernel_rfl) (by kernel_rfl) (fun _ _ _ h => h) (by kernel_rfl) (Or.inl ⟨by rfl, ?_⟩) (by assumption) ?_
  rotate_left
  · (intro wS hSw; (try dsimp only at hSw); go_simp <;> with_reducible rfl)
  try simp only [Act.put, List.setIfInBounds_toArray, List.set_cons_zero, List.set_cons_succ]
  refine wpAnyT_pure (i := 3) (oi := ⟨_, _, _, _, _, _⟩) (v := ?_) rfl (by kernel_rfl) (by kernel_rfl) (by kernel_rfl) (fun _ _ _ h => h) (by kernel_rfl) (Or.inl ⟨by rfl, ?_⟩) (by assumption) ?_
  rotate_left
  · (intro wS hSw; (try dsimp only at hSw); go_simp <;> with_reducible rfl)
  try simp only [Act.put, List.setIfInBounds_toArray, List.set_cons_zero, List.set_cons_succ]
  refine wpAnyT_pure (i := 7) (oi := ⟨_, _, _, _, _, _⟩) (v := ?_) rfl (by kernel_rfl) (by kernel_rfl) (by kernel_rfl) (fun _ _ _ h => h) (by kernel_rfl) (Or.inl ⟨by rfl, ?_⟩) (by assumption) ?_
  rotate_left
  · (intro wS hSw; (try dsimp only at hSw); go_simp <;> with_reducible rfl)
  try simp only [Act.put, List.setIfInBounds_toArray, List.set_cons_zero, List.set_cons_succ]
  refine wpAnyT_take (i := 4) (oi := ⟨_, _, _, _, _, _⟩) (v := ?_) rfl (by kernel_rfl) (by kernel_rfl) (by kernel_rfl) (fun _ _ _ h => h) (by kernel_rfl) (Or.inl ⟨by rfl, ?_⟩) (by assumption) ?_
  rotate_left
  · (intro wS hSw; (try dsimp only at hSw); go_simp <;> with_reducible rfl)
  try simp only [Act.put, List.setIfInBounds_toArray, List.set_cons_zero, List.set_cons_succ]
  refine wpAnyT_take (i := 6) (oi := ⟨_, _, _, _, _, _⟩) (v := ?_) rfl (by kernel_rfl) (by kernel_rfl) (by kernel_rfl) (fun _ _ _ h => h) (by kernel_rfl) (Or.inl ⟨by rfl, ?_⟩) (by assumption) ?_
  rotate_left
  · (intro wS hSw; (try dsimp only at hSw); go_simp <;> with_reducible rfl)
  try simp only [Act.put, List.setIfInBounds_toArray, List.set_cons_zero, List.set_cons_succ]
  refine wpAnyT_ready (rs := [5, 8]) (by kernel_rfl) (by simp) ?_
  refine (AllReadyT.cons (o := ⟨_, _, _, _, _, _⟩) rfl (fun K hK => ?_) (AllReadyT.cons (o := ⟨_, _, _, _, _, _⟩) rfl (fun K hK => ?_) AllReadyT.nil))
  · obtain ⟨A4, c4, w4, hr4, ho4, hb4⟩ := run_append_gps (HROW.out w1.drew HB0.out) hl
    have HO4 := Lib.hid ho4
    have HB4 : Hid (Below w1.heap.size w1 w4) := acc HB0.out hb4
    have K4 := Lib.hid hb4
    clear ho4 hb4
    refine step_append_run rfl (.const (.slice none 0 0)) (.tmp 10) 33 33 rfl _ _ rfl rfl hr4 ?_
    refine hK.out _ _ (by (try dsimp only); (first | exact HSS.out _ HB5.out | exact HSS.out _ (HB4.out.alloc HB4.out.size _) | exact HSS.out _ HB4.out | exact HSS.out _ (HB0.out.alloc HB0.out.size _) | exact HSS.out _ HB0.out)) (fun hHeld => ?_)
    clear hK K
    try simp only [Act.put, List.setIfInBounds_toArray, List.set_cons_zero, List.set_cons_succ]
    refine wpAnyT_ready (rs := [8]) (by kernel_rfl) (by simp) ?_
    refine (AllReadyT.cons (o := ⟨_, _, _, _, _, _⟩) rfl (fun K hK => ?_) AllReadyT.nil)
    go_simp
    refine hK.out _ _ (by (try dsimp only); (first | exact HSS.out _ HB5.out | exact HSS.out _ (HB4.out.alloc HB4.out.size _) | exact HSS.out _ HB4.out | exact HSS.out _ (HB0.out.alloc HB0.out.size _) | exact HSS.out _ HB0.out)) (fun hHeld => ?_)
    clear hK K
    try simp only [Act.put, List.setIfInBounds_toArray, List.set_cons_zero, List.set_cons_succ]
    refine wpAnyT_ready (rs := [9]) (by kernel_rfl) (by simp) ?_
    refine (AllReadyT.cons (o := ⟨_, _, _, _, _, _⟩) rfl (fun K hK => ?_) AllReadyT.nil)
    go_simp
    refine hK.out _ _ (by (try dsimp only); (first | exact HSS.out _ HB5.out | exact HSS.out _ (HB4.out.alloc HB4.out.size _) | exact HSS.out _ HB4.out | exact HSS.out _ (HB0.out.alloc HB0.out.size _) | exact HSS.out _ HB0.out)) (fun hHeld => ?_)
    clear hK K
    try simp only [Act.put, List.setIfInBounds_toArray, List.set_cons_zero, List.set_cons_succ]
    refine wpAnyT_ready (rs := [10]) (by kernel_rfl) (by simp) ?_
    refine (AllReadyT.cons (o := ⟨_, _, _, _, _, _⟩) rfl (fun K hK => ?_) AllReadyT.nil)
    refine step_append_any rfl (.tmp 11) (.tmp 15) 33 rfl w1.heap.size 56 i0 z0 4 32 Try.underlying33 hi0 hz hsL hbL hzc (by decide) (.slice A4 n c4) n (gpC l) rfl ((gate_mono HO4.out (by simp)).alloc _) (.slice (some ⟨w4.heap.size, 0, none⟩) 1 1) 1 (gpC [⟨pf, pt, nd, 0⟩]) rfl (.inr ⟨_, _, rfl, rfl, (fun j u hu => gp_new w4 ⟨pf, pt, nd, 0⟩ j u hu)⟩) (gp_one _) (by unfold maxLen; omega) (by omega) (by have := HB4.out.size; simp <;> omega) ?_
    intro A5 c5 w5 ho5 hg5 _
    have HO5 := Lib.hid ho5
    have HB5 : Hid (Below w1.heap.size w1 w5) := (HB4.out.alloc HB4.out.size _).grown hg5 (by have := HB4.out.size; simp <;> omega) (own_lt (gate_mono HO4.out (by simp)))
    have ff := HFR.out _ HB5.out
    clear ho5 hg5
    refine hK.out _ _ (by (try dsimp only); (first | exact HSS.out _ HB5.out | exact HSS.out _ (HB4.out.alloc HB4.out.size _) | exact HSS.out _ HB4.out | exact HSS.out _ (HB0.out.alloc HB0.out.size _) | exact HSS.out _ HB0.out)) (fun hHeld => ?_)
    clear hK K
    try simp only [Act.put, List.setIfInBounds_toArray, List.set_cons_zero, List.set_cons_succ]
    refine wpAnyT_pure (i := 11) (oi := ⟨_, _, _, _, _, _⟩) (v := ?_) rfl (by kernel_rfl) (by kernel_rfl) (by kernel_rfl) (fun _ _ _ h => h) (by kernel_rfl) (Or.inl ⟨by rfl, ?_⟩) (by assumption) ?_
    rotate_left
    · (intro wS hSw; (try dsimp only at hSw); go_simp <;> with_reducible rfl)
    try simp only [Act.put, List.setIfInBounds_toArray, List.set_cons_zero, List.set_cons_succ]
    refine wpAnyT_pure (i := 12) (oi := ⟨_, _, _, _, _, _⟩) (v := ?_) rfl (by kernel_rfl) (by kernel_rfl) (by kernel_rfl) (fun _ _ _ h => h) (by kernel_rfl) (Or.inl ⟨by rfl, ?_⟩) (by assumption) ?_
    rotate_left
    · (intro wS hSw; (try dsimp only at hSw); go_simp <;> with_reducible rfl)
    try simp only [Act.put, List.setIfInBounds_toArray, List.set_cons_zero, List.set_cons_succ]
    refine wpAnyT_ready (rs := [13]) (by kernel_rfl) (by simp) ?_
    refine (AllReadyT.past (o := ⟨_, _, _, _, _, _⟩) rfl (by kernel_rfl) (fun K hK => ?_) AllReadyT.nil)
    go_simp
    refine hK.out _ _ ?_
    clear hK K
    try simp only [Act.put, List.setIfInBounds_toArray, List.set_cons_zero, List.set_cons_succ]
    refine wpAnyT_done (by kernel_rfl) ?_ _
    go_wp2_with fail
    go_end0
    have h5 := HO5.out
    rw [gpC, gpC, ← rowC_append] at h5
    obtain ⟨k1, k2, k3⟩ := HR.out.set (l' := l ++ [⟨pf, pt, nd, 0⟩]) (V' := .slice A5 (n + 1) c5) HB5.out (by rw [List.length_append, HN.out]; exact h5)
    exact ⟨_, rfl, k1, (Touch.ofBelow (F := [r]) H1.out).trans k2 (fun x hx => .inl hx), fun q hq => Nat.le_trans H1.out.size (k3 q hq)⟩
  · go_simp
    refine hK.out _ _ (by (try dsimp only); (first | exact HSS.out _ HB5.out | exact HSS.out _ (HB4.out.alloc HB4.out.size _) | exact HSS.out _ HB4.out | exact HSS.out _ (HB0.out.alloc HB0.out.size _) | exact HSS.out _ HB0.out)) (fun hHeld => ?_)
    clear hK K
    try simp only [Act.put, List.setIfInBounds_toArray, List.set_cons_zero, List.set_cons_succ]
    refine wpAnyT_ready (rs := [5, 9]) (by kernel_rfl) (by simp) ?_
    refine (AllReadyT.cons (o := ⟨_, _, _, _, _, _⟩) rfl (fun K hK => ?_) (AllReadyT.cons (o := ⟨_, _, _, _, _, _⟩) rfl (fun K hK => ?_) AllReadyT.nil))
    · obtain ⟨A4, c4, w4, hr4, ho4, hb4⟩ := run_append_gps (HROW.out w1.drew HB0.out) hl
      have HO4 := Lib.hid ho4
      have HB4 : Hid (Below w1.heap.size w1 w4) := acc HB0.out hb4
      have K4 := Lib.hid hb4
      clear ho4 hb4
      refine step_append_run rfl (.const (.slice none 0 0)) (.tmp 10) 33 33 rfl _ _ rfl rfl hr4 ?_
      refine hK.out _ _ (by (try dsimp only); (first | exact HSS.out _ HB5.out | exact HSS.out _ (HB4.out.alloc HB4.out.size _) | exact HSS.out _ HB4.out | exact HSS.out _ (HB0.out.alloc HB0.out.size _) | exact HSS.out _ HB0.out)) (fun hHeld => ?_)
      clear hK K
      try simp only [Act.put, List.setIfInBounds_toArray, List.set_cons_zero, List.set_cons_succ]
      refine wpAnyT_ready (rs := [9]) (by kernel_rfl) (by simp) ?_
      refine (AllReadyT.cons (o := ⟨_, _, _, _, _, _⟩) rfl (fun K hK => ?_) AllReadyT.nil)
      go_simp
      refine hK.out _ _ (by (try dsimp only); (first | exact HSS.out _ HB5.out | exact HSS.out _ (HB4.out.alloc HB4.out.size _) | exact HSS.out _ HB4.out | exact HSS.out _ (HB0.out.alloc HB0.out.size _) | exact HSS.out _ HB0.out)) (fun hHeld => ?_)
      clear hK K
      try simp only [Act.put, List.setIfInBounds_toArray, List.set_cons_zero, List.set_cons_succ]
      refine wpAnyT_ready (rs := [10]) (by kernel_rfl) (by simp) ?_
      refine (AllReadyT.cons (o := ⟨_, _, _, _, _, _⟩) rfl (fun K hK => ?_) AllReadyT.nil)
      refine step_append_any rfl (.tmp 11) (.tmp 15) 33 rfl w1.heap.size 56 i0 z0 4 32 Try.underlying33 hi0 hz hsL hbL hzc (by decide) (.slice A4 n c4) n (gpC l) rfl ((gate_mono HO4.out (by simp)).alloc _) (.slice (some ⟨w4.heap.size, 0, none⟩) 1 1) 1 (gpC [⟨pf, pt, nd, 0⟩]) rfl (.inr ⟨_, _, rfl, rfl, (fun j u hu => gp_new w4 ⟨pf, pt, nd, 0⟩ j u hu)⟩) (gp_one _) (by unfold maxLen; omega) (by omega) (by have := HB4.out.size; simp <;> omega) ?_
      intro A5 c5 w5 ho5 hg5 _
      have HO5 := Lib.hid ho5
      have HB5 : Hid (Below w1.heap.size w1 w5) := (HB4.out.alloc HB4.out.size _).grown hg5 (by have := HB4.out.size; simp <;> omega) (own_lt (gate_mono HO4.out (by simp)))
      have ff := HFR.out _ HB5.out
      clear ho5 hg5
      refine hK.out _ _ (by (try dsimp only); (first | exact HSS.out _ HB5.out | exact HSS.out _ (HB4.out.alloc HB4.out.size _) | exact HSS.out _ HB4.out | exact HSS.out _ (HB0.out.alloc HB0.out.size _) | exact HSS.out _ HB0.out)) (fun hHeld => ?_)
      clear hK K
      try simp only [Act.put, List.setIfInBounds_toArray, List.set_cons_zero, List.set_cons_succ]
      refine wpAnyT_pure (i := 11) (oi := ⟨_, _, _, _, _, _⟩) (v := ?_) rfl (by kernel_rfl) (by kernel_rfl) (by kernel_rfl) (fun _ _ _ h => h) (by kernel_rfl) (Or.inl ⟨by rfl, ?_⟩) (by assumption) ?_
      rotate_left
      · (intro wS hSw; (try dsimp only at hSw); go_simp <;> with_reducible rfl)
      try simp only [Act.put, List.setIfInBounds_toArray, List.set_cons_zero, List.set_cons_succ]
      refine wpAnyT_pure (i := 12) (oi := ⟨_, _, _, _, _, _⟩) (v := ?_) rfl (by kernel_rfl) (by kernel_rfl) (by kernel_rfl) (fun _ _ _ h => h) (by kernel_rfl) (Or.inl ⟨by rfl, ?_⟩) (by assumption) ?_
      rotate_left
      · (intro wS hSw; (try dsimp only at hSw); go_simp <;> with_reducible rfl)
      try simp only [Act.put, List.setIfInBounds_toArray, List.set_cons_zero, List.set_cons_succ]
      refine wpAnyT_ready (rs := [13]) (by kernel_rfl) (by simp) ?_
      refine (AllReadyT.past (o := ⟨_, _, _, _, _, _⟩) rfl (by kernel_rfl) (fun K hK => ?_) AllReadyT.nil)
      go_simp
      refine hK.out _ _ ?_
      clear hK K
      try simp only [Act.put, List.setIfInBounds_toArray, List.set_cons_zero, List.set_cons_succ]
      refine wpAnyT_done (by kernel_rfl) ?_ _
      go_wp2_with fail
      go_end0
      have h5 := HO5.out
      rw [gpC, gpC, ← rowC_append] at h5
      obtain ⟨k1, k2, k3⟩ := HR.out.set (l' := l ++ [⟨pf, pt, nd, 0⟩]) (V' := .slice A5 (n + 1) c5) HB5.out (by rw [List.length_append, HN.out]; exact h5)
      exact ⟨_, rfl, k1, (Touch.ofBelow (F := [r]) H1.out).trans k2 (fun x hx => .inl hx), fun q hq => Nat.le_trans H1.out.size (k3 q hq)⟩
    · go_simp
      refine hK.out _ _ (by (try dsimp only); (first | exact HSS.out _ HB5.out | exact HSS.out _ (HB4.out.alloc HB4.out.size _) | exact HSS.out _ HB4.out | exact HSS.out _ (HB0.out.alloc HB0.out.size _) | exact HSS.out _ HB0.out)) (fun hHeld => ?_)
      clear hK K
      try simp only [Act.put, List.setIfInBounds_toArray, List.set_cons_zero, List.set_cons_succ]
      refine wpAnyT_ready (rs := [5]) (by kernel_rfl) (by simp) ?_
      refine (AllReadyT.cons (o := ⟨_, _, _, _, _, _⟩) rfl (fun K hK => ?_) AllReadyT.nil)
      obtain ⟨A4, c4, w4, hr4, ho4, hb4⟩ := run_append_gps (HROW.out (w1.drew.alloc (.cells #[.int .u64 (pf : Nat), .int .u64 (pt : Nat), .int .i64 nd, .int .i64 0] 56)) (HB0.out.alloc HB0.out.size (.cells #[.int .u64 (pf : Nat), .int .u64 (pt : Nat), .int .i64 nd, .int .i64 0] 56))) hl
      have HO4 := Lib.hid ho4
      have HB4 : Hid (Below w1.heap.size w1 w4) := acc (HB0.out.alloc HB0.out.size (.cells #[.int .u64 (pf : Nat), .int .u64 (pt : Nat), .int .i64 nd, .int .i64 0] 56)) hb4
      have K4 := Lib.hid hb4
      clear ho4 hb4
      refine step_append_run rfl (.const (.slice none 0 0)) (.tmp 10) 33 33 rfl _ _ rfl rfl hr4 ?_
      refine hK.out _ _ (by (try dsimp only); (first | exact HSS.out _ HB5.out | exact HSS.out _ (HB4.out.alloc HB4.out.size _) | exact HSS.out _ HB4.out | exact HSS.out _ (HB0.out.alloc HB0.out.size _) | exact HSS.out _ HB0.out)) (fun hHeld => ?_)
      clear hK K
      try simp only [Act.put, List.setIfInBounds_toArray, List.set_cons_zero, List.set_cons_succ]
      refine wpAnyT_ready (rs := [10]) (by kernel_rfl) (by simp) ?_
      refine (AllReadyT.cons (o := ⟨_, _, _, _, _, _⟩) rfl (fun K hK => ?_) AllReadyT.nil)
      refine step_append_any rfl (.tmp 11) (.tmp 15) 33 rfl w1.heap.size 56 i0 z0 4 32 Try.underlying33 hi0 hz hsL hbL hzc (by decide) (.slice A4 n c4) n (gpC l) rfl ((gate_mono HO4.out (by simp))) (.slice (some ⟨w1.drew.heap.size, 0, none⟩) 1 1) 1 (gpC [⟨pf, pt, nd, 0⟩]) rfl (.inr ⟨_, _, rfl, rfl, (gp_old (p := ⟨pf, pt, nd, 0⟩) K4.out)⟩) (gp_one _) (by unfold maxLen; omega) (by omega) (by have := HB4.out.size; simp <;> omega) ?_
      intro A5 c5 w5 ho5 hg5 _
      have HO5 := Lib.hid ho5
      have HB5 : Hid (Below w1.heap.size w1 w5) := HB4.out.grown hg5 (by have := HB4.out.size; simp <;> omega) (own_lt (gate_mono HO4.out (by simp)))
      have ff := HFR.out _ HB5.out
      clear ho5 hg5
      refine hK.out _ _ (by (try dsimp only); (first | exact HSS.out _ HB5.out | exact HSS.out _ (HB4.out.alloc HB4.out.size _) | exact HSS.out _ HB4.out | exact HSS.out _ (HB0.out.alloc HB0.out.size _) | exact HSS.out _ HB0.out)) (fun hHeld => ?_)
      clear hK K
      try simp only [Act.put, List.setIfInBounds_toArray, List.set_cons_zero, List.set_cons_succ]
      refine wpAnyT_pure (i := 11) (oi := ⟨_, _, _, _, _, _⟩) (v := ?_) rfl (by kernel_rfl) (by kernel_rfl) (by kernel_rfl) (fun _ _ _ h => h) (by kernel_rfl) (Or.inl ⟨by rfl, ?_⟩) (by assumption) ?_
      rotate_left
      · (intro wS hSw; (try dsimp only at hSw); go_simp <;> with_reducible rfl)
      try simp only [Act.put, List.setIfInBounds_toArray, List.set_cons_zero, List.set_cons_succ]
      refine wpAnyT_pure (i := 12) (oi := ⟨_, _, _, _, _, _⟩) (v := ?_) rfl (by kernel_rfl) (by kernel_rfl) (by kernel_rfl) (fun _ _ _ h => h) (by kernel_rfl) (Or.inl ⟨by rfl, ?_⟩) (by assumption) ?_
      rotate_left
      · (intro wS hSw; (try dsimp only at hSw); go_simp <;> with_reducible rfl)
      try simp only [Act.put, List.setIfInBounds_toArray, List.set_cons_zero, List.set_cons_succ]
      refine wpAnyT_ready (rs := [13]) (by kernel_rfl) (by simp) ?_
      refine (AllReadyT.past (o := ⟨_, _, _, _, _, _⟩) rfl (by kernel_rfl) (fun K hK => ?_) AllReadyT.nil)
      go_simp
      refine hK.out _ _ ?_
      clear hK K
      try simp only [Act.put, List.setIfInBounds_toArray, List.set_cons_zero, List.set_cons_succ]
      refine wpAnyT_done (by kernel_rfl) ?_ _
      go_wp2_with fail
      go_end0
      have h5 := HO5.out
      rw [gpC, gpC, ← rowC_append] at h5
      obtain ⟨k1, k2, k3⟩ := HR.out.set (l' := l ++ [⟨pf, pt, nd, 0⟩]) (V' := .slice A5 (n + 1) c5) HB5.out (by rw [List.length_append, HN.out]; exact h5)
      exact ⟨_, rfl, k1, (Touch.ofBelow (F := [r]) H1.out).trans k2 (fun x hx => .inl hx), fun q hq => Nat.le_trans H1.out.size (k3 q hq)⟩
end Go.Proofs.Ytompbhkmaalioaa
