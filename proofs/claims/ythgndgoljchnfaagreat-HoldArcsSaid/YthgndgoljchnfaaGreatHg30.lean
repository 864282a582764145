/-
  The code's hold: New, Keep, Release, Own. (Written by tools/genOB.py.)
  What is there behind put and del (as ShelfFacts has it, of getI; no program is met here).
-/
import Derived.Test.YthgndgoljchnfaaGreatHg29
import Derived.Test.YthgndgoljchnfaaGreatHg03
namespace Go.Proofs.YthgndgoljchnfaaGreat
open Go.RowKit

set_option maxRecDepth 100000 in
set_option maxHeartbeats 2000000 in
theorem hdNew_any (nd most : Int) (w : World) (h0 : Wide nd) (h1 : Wide most) : Calls Tryz.prog 12 #[.int .i64 nd, .int .i64 most] w fun e w' =>
    ∃ g F, e = .returned (.pointer (some ⟨g, 0, none⟩)) ∧ VD w' g (HO.new nd most) F ∧ (∀ q ∈ F, w.heap.size ≤ q) ∧ Below w.heap.size w w' := by
  have C0 := Lib.hid (shelfLaws.new w most h1.1 h1.2)
  have HW := Lib.hid h0
  obtain ⟨m, hm⟩ : ∃ m, min (max most 0) 200 = m := ⟨_, rfl⟩
  rw [hm] at C0
  have HM1 := Lib.hid hm
  go_enter Tryz.func12, Tryz.ntmps12
  go_wp2_with (go_at_call 32; (with_reducible refine (C0.out).mono ?_); rintro e w1 ⟨sp, Fs, rfl, k1, k2, k3⟩; have K1 := Lib.hid k1; have K2 := Lib.hid k2; have K3 := Lib.hid k3; clear k1 k2 k3)
  go_ret
  have hb : Below w1.heap.size w1 (w1.alloc (.cells (Gi.hC ⟨.int .i64 nd, .int .i64 m, .int .i64 (0 : Nat), .slice none 0 0, .pointer (some ⟨sp, 0, none⟩)⟩ G0 (Gi.gNil :: List.replicate 39 Gi.gNil)).toArray 76)) := (Below.refl _ _).alloc (Nat.le_refl _) _
  have hg : Gi.VG (w1.alloc (.cells (Gi.hC ⟨.int .i64 nd, .int .i64 m, .int .i64 (0 : Nat), .slice none 0 0, .pointer (some ⟨sp, 0, none⟩)⟩ G0 (Gi.gNil :: List.replicate 39 Gi.gNil)).toArray 76)) w1.heap.size ⟨.int .i64 nd, .int .i64 m, .int .i64 (0 : Nat), .slice none 0 0, .pointer (some ⟨sp, 0, none⟩)⟩ G0 [w1.heap.size] := Gi.vg_zero (heap_alloc_new w1 _)
  have hs := K1.out.touch (Touch.ofBelow (F := []) hb) (by simp)
  have hlt := K1.out.ltF
  refine ⟨w1.heap.size, hF (.slice none 0 0) Fs [w1.heap.size], rfl, ⟨[], .slice none 0 0, sp, Fs, [w1.heap.size], ?_, rfl⟩, fun q hq => ?_, acc K3.out hb⟩
  · refine ⟨?_, OwnAt.nil _ _ _, ?_, OwnL.nil, Nat.zero_le _, HW.out, fun x hx => (by cases hx), Nat.zero_le _, fun q hq z => ?_, fun q hq => (by cases hq)⟩
    · show Gi.VG _ _ ⟨.int .i64 nd, .int .i64 (min (max most 0) 200), .int .i64 (0 : Nat), .slice none 0 0, .pointer (some ⟨sp, 0, none⟩)⟩ _ _
      rw [HM1.out]
      exact hg
    · show SH _ sp (min (max most 0) 200) [] Fs
      rw [HM1.out]
      exact hs
    · have := hlt q hq
      rw [List.mem_singleton.1 z] at this
      exact Nat.lt_irrefl _ this
  · rcases mem_hF.1 hq with z | z | z
    · cases z
    · exact K2.out q z
    · rw [List.mem_singleton.1 z]
      exact K3.out.size
set_option maxHeartbeats 1000000 in
theorem room_any {w : World} {g sp : Nat} {s : HO} {l : List AO} {S : Value} {Fs Fg : List Nat} (h : HM w g s l S sp Fs Fg) : Calls Tryz.prog 46 #[.pointer (some ⟨g, 0, none⟩)] w fun e w' => e = .returned (.int .i64 (s.most - (s.its.length : Nat) - (s.kept : Nat))) ∧ Below w.heap.size w w' := by
  have hd := h.below (Below.refl w.heap.size w).drew
  have C0 := Lib.hid (shelfLaws.len hd.shelf)
  have HC : Hid (∀ w', Below w.heap.size w w' → w'.cell? ⟨g, 1, none⟩ = some (.int .i64 s.most) ∧ w'.cell? ⟨g, 2, none⟩ = some (.int .i64 (s.kept : Nat)) ∧ w'.cell? ⟨g, 4, none⟩ = some (.pointer (some ⟨sp, 0, none⟩))) := fun w' hb => ⟨(h.below hb).gate.cells.2.1, (h.below hb).gate.cells.2.2.1, (h.below hb).c4⟩
  have h2 := h.its200
  have h3 := h.kept
  have w1 : IntKind.i64.wrap (s.most - (s.its.length : Nat)) = s.most - (s.its.length : Nat) := by rw [IntKind.wrap_i64]; omega
  have w2 : IntKind.i64.wrap (s.most - (s.its.length : Nat) - (s.kept : Nat)) = s.most - (s.its.length : Nat) - (s.kept : Nat) := by rw [IntKind.wrap_i64]; omega
  generalize s.kept = kp at *
  generalize s.its.length = ln at *
  generalize s.most = mo at *
  have S0 := Lib.hid (HC.out _ (Below.refl w.heap.size w).drew)
  clear h hd h2 h3
  go_enter Tryz.func46, Tryz.ntmps46
  go_upto_region 1 with fail
  refine wp_region_till (fun w' => w'.cell? ⟨g, 1, none⟩ = some (.int .i64 mo) ∧ w'.cell? ⟨g, 2, none⟩ = some (.int .i64 (kp : Nat)) ∧ w'.cell? ⟨g, 4, none⟩ = some (.pointer (some ⟨sp, 0, none⟩))) 15 (by kernel_rfl) ?_ (fun hHeld => ?_)
  · (try dsimp only); exact S0.out
  refine wpAnyT_pure (i := 0) (oi := ⟨_, _, _, _, _, _⟩) (v := ?_) rfl (by kernel_rfl) (by kernel_rfl) (by kernel_rfl) (fun _ _ _ h => h) (by kernel_rfl) (Or.inl ⟨by rfl, ?_⟩) (by assumption) ?_
  rotate_left
  · (intro wS hSw; (try dsimp only at hSw); go_simp <;> with_reducible rfl)
  try simp only [Act.put, List.setIfInBounds_toArray, List.set_cons_zero, List.set_cons_succ]
  refine wpAnyT_pure (i := 1) (oi := ⟨_, _, _, _, _, _⟩) (v := ?_) rfl (by kernel_rfl) (by kernel_rfl) (by kernel_rfl) (fun _ _ _ h => h) (by kernel_rfl) (Or.inl ⟨by rfl, ?_⟩) (by assumption) ?_
  rotate_left
  · (intro wS hSw; (try dsimp only at hSw); go_simp <;> with_reducible rfl)
  try simp only [Act.put, List.setIfInBounds_toArray, List.set_cons_zero, List.set_cons_succ]
  refine wpAnyT_pure (i := 2) (oi := ⟨_, _, _, _, _, _⟩) (v := ?_) rfl (by kernel_rfl) (by kernel_rfl) (by kernel_rfl) (fun _ _ _ h => h) (by kernel_rfl) (Or.inl ⟨by rfl, ?_⟩) (by assumption) ?_
  rotate_left
  · (intro wS hSw; (try dsimp only at hSw); go_simp <;> with_reducible rfl)
  try simp only [Act.put, List.setIfInBounds_toArray, List.set_cons_zero, List.set_cons_succ]
  refine wpAnyT_pure (i := 4) (oi := ⟨_, _, _, _, _, _⟩) (v := ?_) rfl (by kernel_rfl) (by kernel_rfl) (by kernel_rfl) (fun _ _ _ h => h) (by kernel_rfl) (Or.inl ⟨by rfl, ?_⟩) (by assumption) ?_
  rotate_left
  · (intro wS hSw; (try dsimp only at hSw); go_simp <;> with_reducible rfl)
  try simp only [Act.put, List.setIfInBounds_toArray, List.set_cons_zero, List.set_cons_succ]
  refine wpAnyT_pure (i := 5) (oi := ⟨_, _, _, _, _, _⟩) (v := ?_) rfl (by kernel_rfl) (by kernel_rfl) (by kernel_rfl) (fun _ _ _ h => h) (by kernel_rfl) (Or.inl ⟨by rfl, ?_⟩) (by assumption) ?_
  rotate_left
  · (intro wS hSw; (try dsimp only at hSw); go_simp <;> with_reducible rfl)
  try simp only [Act.put, List.setIfInBounds_toArray, List.set_cons_zero, List.set_cons_succ]
  refine wpAnyT_pure (i := 6) (oi := ⟨_, _, _, _, _, _⟩) (v := ?_) rfl (by kernel_rfl) (by kernel_rfl) (by kernel_rfl) (fun _ _ _ h => h) (by kernel_rfl) (Or.inl ⟨by rfl, ?_⟩) (by assumption) ?_
  rotate_left
  · (intro wS hSw; (try dsimp only at hSw); go_simp <;> with_reducible rfl)
  try simp only [Act.put, List.setIfInBounds_toArray, List.set_cons_zero, List.set_cons_succ]
  refine wpAnyT_pure (i := 10) (oi := ⟨_, _, _, _, _, _⟩) (v := ?_) rfl (by kernel_rfl) (by kernel_rfl) (by kernel_rfl) (fun _ _ _ h => h) (by kernel_rfl) (Or.inl ⟨by rfl, ?_⟩) (by assumption) ?_
  rotate_left
  · (intro wS hSw; (try dsimp only at hSw); go_simp <;> with_reducible rfl)
  try simp only [Act.put, List.setIfInBounds_toArray, List.set_cons_zero, List.set_cons_succ]
  refine wpAnyT_pure (i := 11) (oi := ⟨_, _, _, _, _, _⟩) (v := ?_) rfl (by kernel_rfl) (by kernel_rfl) (by kernel_rfl) (fun _ _ _ h => h) (by kernel_rfl) (Or.inl ⟨by rfl, ?_⟩) (by assumption) ?_
  rotate_left
  · (intro wS hSw; (try dsimp only at hSw); go_simp <;> with_reducible rfl)
  try simp only [Act.put, List.setIfInBounds_toArray, List.set_cons_zero, List.set_cons_succ]
  refine wpAnyT_pure (i := 12) (oi := ⟨_, _, _, _, _, _⟩) (v := ?_) rfl (by kernel_rfl) (by kernel_rfl) (by kernel_rfl) (fun _ _ _ h => h) (by kernel_rfl) (Or.inl ⟨by rfl, ?_⟩) (by assumption) ?_
  rotate_left
  · (intro wS hSw; (try dsimp only at hSw); go_simp <;> with_reducible rfl)
  try simp only [Act.put, List.setIfInBounds_toArray, List.set_cons_zero, List.set_cons_succ]
  refine wpAnyT_take (i := 3) (oi := ⟨_, _, _, _, _, _⟩) (v := ?_) rfl (by kernel_rfl) (by kernel_rfl) (by kernel_rfl) (fun _ _ _ h => h) (by kernel_rfl) (Or.inl ⟨by rfl, ?_⟩) (by assumption) ?_
  rotate_left
  · (intro wS hSw; (try dsimp only at hSw); go_simp <;> with_reducible rfl)
  try simp only [Act.put, List.setIfInBounds_toArray, List.set_cons_zero, List.set_cons_succ]
  refine wpAnyT_take (i := 7) (oi := ⟨_, _, _, _, _, _⟩) (v := ?_) rfl (by kernel_rfl) (by kernel_rfl) (by kernel_rfl) (fun _ _ _ h => h) (by kernel_rfl) (Or.inl ⟨by rfl, ?_⟩) (by assumption) ?_
  rotate_left
  · (intro wS hSw; (try dsimp only at hSw); go_simp <;> with_reducible rfl)
  try simp only [Act.put, List.setIfInBounds_toArray, List.set_cons_zero, List.set_cons_succ]
  refine wpAnyT_take (i := 13) (oi := ⟨_, _, _, _, _, _⟩) (v := ?_) rfl (by kernel_rfl) (by kernel_rfl) (by kernel_rfl) (fun _ _ _ h => h) (by kernel_rfl) (Or.inl ⟨by rfl, ?_⟩) (by assumption) ?_
  rotate_left
  · (intro wS hSw; (try dsimp only at hSw); go_simp <;> with_reducible rfl)
  try simp only [Act.put, List.setIfInBounds_toArray, List.set_cons_zero, List.set_cons_succ]
  refine wpAnyT_ready (rs := [8]) (by kernel_rfl) (by simp) ?_
  refine (AllReadyT.cons (o := ⟨_, _, _, _, _, _⟩) rfl (fun K hK => ?_) AllReadyT.nil)
  go_simp
  (first | (go_at_call 50; (with_reducible refine (C0.out).mono ?_); rintro e w1 ⟨rfl, hb1⟩))
  have HB1 : Hid (Below w.heap.size w w1) := ((Below.refl w.heap.size w).drew).trans hb1
  clear hb1
  go_wp2_with fail
  refine hK.out _ _ (by (try dsimp only); (first | exact HC.out _ HB1.out | exact S0.out)) (fun hHeld => ?_)
  clear hK K
  try simp only [Act.put, List.setIfInBounds_toArray, List.set_cons_zero, List.set_cons_succ]
  refine wpAnyT_pure (i := 9) (oi := ⟨_, _, _, _, _, _⟩) (v := ?_) rfl (by kernel_rfl) (by kernel_rfl) (by kernel_rfl) (fun _ _ _ h => h) (by kernel_rfl) (Or.inl ⟨by rfl, ?_⟩) (by assumption) ?_
  rotate_left
  · (intro wS hSw; (try dsimp only at hSw); go_simp <;> with_reducible rfl)
  try simp only [Act.put, List.setIfInBounds_toArray, List.set_cons_zero, List.set_cons_succ]
  refine wpAnyT_pure (i := 14) (oi := ⟨_, _, _, _, _, _⟩) (v := ?_) rfl (by kernel_rfl) (by kernel_rfl) (by kernel_rfl) (fun _ _ _ h => h) (by kernel_rfl) (Or.inl ⟨by rfl, ?_⟩) (by assumption) ?_
  rotate_left
  · (intro wS hSw; (try dsimp only at hSw); go_simp <;> with_reducible rfl)
  try simp only [Act.put, List.setIfInBounds_toArray, List.set_cons_zero, List.set_cons_succ]
  refine wpAnyT_ready (rs := [15]) (by kernel_rfl) (by simp) ?_
  refine (AllReadyT.past (o := ⟨_, _, _, _, _, _⟩) rfl (by kernel_rfl) (fun K hK => ?_) AllReadyT.nil)
  go_simp
  refine hK.out _ _ ?_
  clear hK K
  try simp only [Act.put, List.setIfInBounds_toArray, List.set_cons_zero, List.set_cons_succ]
  refine wpAnyT_done (by kernel_rfl) ?_ _
  go_wp2_with fail
  go_ret
  first
    | exact ⟨rfl, HB1.out⟩
    | (rw [← w2]; exact ⟨rfl, HB1.out⟩)
set_option maxHeartbeats 1000000 in
theorem hdKeep_any {w : World} {g : Nat} {s : HO} {F : List Nat} (n : Int) (hn : Wide n) (h : VD w g s F) : Calls Tryz.prog 16 #[.pointer (some ⟨g, 0, none⟩), .int .i64 n] w fun e w' =>
    ((0 ≤ n ∧ (s.its.length : Int) + s.kept + n ≤ s.most) ∧ HdPost VD w g F (.bool true) ⟨s.nd, s.most, s.kept + n.toNat, s.own, s.its, s.g, s.k⟩ e w') ∨ (¬ (0 ≤ n ∧ (s.its.length : Int) + s.kept + n ≤ s.most) ∧ HdPost VD w g F (.bool false) s e w') := by
  obtain ⟨l, S, sp, Fs, Fg, h, rfl⟩ := h
  have C0 := Lib.hid (none_any g sp w h.c4)
  have C1 := Lib.hid (room_any h)
  have HH := Lib.hid h
  have h2 := h.its200
  have hkp := h.kept
  obtain ⟨rm, hrm⟩ : ∃ rm, s.most - (s.its.length : Nat) - (s.kept : Nat) = rm := ⟨_, rfl⟩
  rw [hrm] at C1
  by_cases hn0 : n < 0
  · have d0 : decide (n < 0) = true := decide_eq_true hn0
    clear h
    go_enter Tryz.func16, Tryz.ntmps16
    go_wp2_with (go_at_call 33; (with_reducible refine (C0.out).mono ?_); rintro e w1 ⟨rfl, rfl⟩)
    go_ret
    exact .inr ⟨fun z => by omega, HH.out.same (Below.refl _ _) _⟩
  · have d0 : decide (n < 0) = false := decide_eq_false hn0
    by_cases hr : n > rm
    · have d1 : decide (n > rm) = true := decide_eq_true hr
      have d2 : decide (rm < n) = true := decide_eq_true hr
      have HRM := Lib.hid hrm
      clear h hrm
      go_enter Tryz.func16, Tryz.ntmps16
      go_wp2_with (first
        | (go_at_call 33; (with_reducible refine (C0.out).mono ?_); rintro e w1 ⟨rfl, rfl⟩)
        | (go_at_call 46; (with_reducible refine (C1.out).mono ?_); rintro e w2 ⟨rfl, hb2⟩; have HB2 := Lib.hid hb2; clear hb2))
      go_ret
      exact .inr ⟨fun z => by have := HRM.out; omega, HH.out.same HB2.out _⟩
    · have d1 : decide (n > rm) = false := decide_eq_false hr
      have d2 : decide (rm < n) = false := decide_eq_false hr
      obtain ⟨k2, hk2⟩ : ∃ k2 : Nat, s.kept + n.toNat = k2 := ⟨_, rfl⟩
      have hkw : IntKind.i64.wrap ((s.kept : Nat) + n) = (k2 : Nat) := by rw [IntKind.wrap_i64]; omega
      have hk200 : k2 ≤ 200 := by omega
      have HP : Hid (0 ≤ n ∧ (s.its.length : Int) + s.kept + n ≤ s.most) := ⟨by omega, by omega⟩
      have HK2 := Lib.hid hk2
      clear h hrm h2 hkp hk2
      go_enter Tryz.func16, Tryz.ntmps16
      go_wp2_with (first
        | (go_at_call 33; (with_reducible refine (C0.out).mono ?_); rintro e w1 ⟨rfl, rfl⟩)
        | (go_at_call 46; (with_reducible refine (C1.out).mono ?_); rintro e w2 ⟨rfl, hb2⟩; have HB2 := Lib.hid hb2; have c2 := (HH.out.below hb2).gate.cells.2.2.1; have f2 := (HH.out.below hb2).gate.cells.2.2.2.2.2.1 2; clear hb2))
      go_ret
      refine .inl ⟨HP.out, _, rfl, ⟨l, S, sp, Fs, Fg, ?_, rfl⟩, ?_, fun q hq => .inl hq⟩
      · have z := (HH.out.below HB2.out).setKept k2 hk200
        rw [HK2.out]
        first | exact z | exact z.below (Below.refl _ _).drew
      · have hg : g ∈ hF S Fs Fg := mem_hF.2 (.inr (.inr HH.out.gate.cells.2.2.2.2.2.2.2))
        first | exact (Touch.ofBelow HB2.out).set (.inl hg) _ | exact ((Touch.ofBelow HB2.out).set (.inl hg) _).drew
set_option maxHeartbeats 1000000 in
theorem release_any {w : World} {g sp : Nat} {s : HO} {l : List AO} {S : Value} {Fs Fg : List Nat} (n : Int) (hn : Wide n) (h : HM w g s l S sp Fs Fg) : Calls Tryz.prog 49 #[.pointer (some ⟨g, 0, none⟩), .int .i64 n] w fun e w' =>
    e = .returned (.tuple #[]) ∧ HM w' g ⟨s.nd, s.most, s.kept - n.toNat, s.own, s.its, s.g, s.k⟩ l S sp Fs Fg ∧ Touch Fg w w' := by
  have C0 := Lib.hid (none_any g sp w h.c4)
  have c2 := h.gate.cells.2.2.1
  have f2 := h.gate.cells.2.2.2.2.2.1 2
  have HH := Lib.hid h
  have hkp := h.kept
  obtain ⟨m, hm⟩ : ∃ m : Int, max n 0 = m := ⟨_, rfl⟩
  obtain ⟨k2, hk2⟩ : ∃ k2 : Nat, s.kept - n.toNat = k2 := ⟨_, rfl⟩
  have hkw : IntKind.i64.wrap ((s.kept : Nat) - m) = (s.kept : Nat) - m := by rw [IntKind.wrap_i64]; have := hn.2; omega
  have hmk : max ((s.kept : Nat) - m) 0 = (k2 : Nat) := by omega
  have HK2 := Lib.hid hk2
  have hk200 : k2 ≤ 200 := by omega
  clear h hk2 hkp
  go_enter Tryz.func49, Tryz.ntmps49
  go_wp2_with (go_at_call 33; (with_reducible refine (C0.out).mono ?_); rintro e w1 ⟨rfl, rfl⟩)
  go_end0
  rw [HK2.out]
  refine ⟨rfl, ?_, ?_⟩
  · first | exact HH.out.setKept k2 hk200 | exact (HH.out.setKept k2 hk200).below (Below.refl _ _).drew
  · have hg : g ∈ Fg := HH.out.gate.cells.2.2.2.2.2.2.2
    first | exact (Touch.refl _ _).set (.inl hg) _ | exact ((Touch.refl _ _).set (.inl hg) _).drew
theorem may_any {s : HO} {l : List AO} (h : OwnL l s.own) {f t : Nat} {ep : Int} (hf : f < 18446744073709551616) (ht : t < 18446744073709551616) (h0 : 0 ≤ ep) : (!l.any (meetsA f t)) = true ↔ s.may f t ep := by
  rw [Bool.not_eq_true', List.any_eq_false]
  have := may_iff h hf ht
  constructor
  · intro z
    exact ⟨h0, this.1 fun o ho => by simpa [meetsA] using z o ho⟩
  · intro z o ho
    have := this.2 z.2 o ho
    simp [meetsA, this]
set_option maxHeartbeats 1000000 in
theorem free_any {w : World} {g sp : Nat} {s : HO} {l : List AO} {S : Value} {Fs Fg : List Nat} (f t : Nat) (ep : Int) (hf : f < 18446744073709551616) (ht : t < 18446744073709551616) (hk : s.k ≤ 1000) (h : HM w g s l S sp Fs Fg) : Calls Tryz.prog 34 #[.pointer (some ⟨g, 0, none⟩), .agg (a2 f t), .int .i64 ep] w fun e w' =>
    ∃ b, e = .returned (.bool b) ∧ (b = true ↔ s.may f t ep) ∧ Below w.heap.size w w' := by
  have B0 : Below w.heap.size w (w.alloc (.cells (a2 f t) 25)) := (Below.refl _ _).alloc (Nat.le_refl _) _
  have h1 := h.below B0
  obtain ⟨A, c, rfl, _, _⟩ := h1.row.shape
  have hbx := (Bx.new w (a2 f t) 25)
  have C1 := Lib.hid (someFree_any l s.nd (meetsA f t) w.heap.size A c l.length _ (by have := h1.few; omega) h1.row (fun w' o hb ho => freeC_any o s.nd f t w.heap.size w' (h1.ol.arcs.lt o ho) hf ht (hbx.below hb).two.1 (hbx.below hb).two.2.1))
  have c3 := h.c3
  have lg := h.lt
  by_cases h0 : ep < 0
  · have d0 : decide (ep < 0) = true := decide_eq_true h0
    clear h h1 hbx
    go_enter Tryz.func34, Tryz.ntmps34
    go_wp2_with fail
    go_ret
    exact ⟨false, rfl, ⟨fun z => (by cases z), fun z => by have := z.1; omega⟩, B0⟩
  · have d0 : decide (ep < 0) = false := decide_eq_false h0
    have HMAY := Lib.hid (may_any (s := s) h.ol hf ht (ep := ep) (by omega))
    generalize l.any (meetsA f t) = bb at *
    clear h h1 hbx
    go_enter Tryz.func34, Tryz.ntmps34
    go_wp2_with (go_at_call 60; (with_reducible refine (C1.out).mono ?_); rintro e w2 ⟨rfl, hb2⟩; have HB2 := Lib.hid (acc B0 hb2); clear hb2)
    go_ret
    exact ⟨!bb, rfl, HMAY.out, HB2.out⟩
set_option maxRecDepth 100000 in
set_option maxHeartbeats 4000000 in
theorem own_any' {w : World} {g sp : Nat} {s : HO} {l : List AO} {S : Value} {Fs Fg : List Nat} (f t : Nat) (ep : Int) (hf : f < 18446744073709551616) (ht : t < 18446744073709551616) (hw : Wide ep) (hk : s.k ≤ 1000) (h : HM w g s l S sp Fs Fg) : Calls Tryz.prog 13 #[.pointer (some ⟨g, 0, none⟩), .agg (a2 f t), .int .i64 ep] w fun e w' =>
    (s.may f t ep ∧ ∃ l2 S2, e = .returned (.bool true) ∧ HM w' g (s.take f t ep) l2 S2 sp Fs Fg ∧ Touch (S.ownBlock.toList ++ Fg) w w' ∧ ∀ q, S2.ownBlock = some q → w.heap.size ≤ q) ∨ (¬ s.may f t ep ∧ e = .returned (.bool false) ∧ Below w.heap.size w w') := by
  have B0 : Below w.heap.size w (w.alloc (.cells (a2 f t) 25)) := (Below.refl _ _).alloc (Nat.le_refl _) _
  have hbx := (Bx.new w (a2 f t) 25)
  have h1 := h.below B0
  have C0 := Lib.hid (none_any g sp _ h1.c4)
  have C1 := Lib.hid (free_any f t ep hf ht hk h1)
  have HH := Lib.hid h
  have lg := h.lt
  have HFT : Hid (f < 18446744073709551616 ∧ t < 18446744073709551616) := ⟨hf, ht⟩
  have HWE := Lib.hid hw
  have hk2 : l.length ≤ 2000 := by have := h.few; omega
  clear h1 hk hf ht hw h
  go_enter Tryz.func13, Tryz.ntmps13
  go_upto_region 1 with fail
  obtain ⟨b4, hb4⟩ : ∃ b4, w.heap.size = b4 := ⟨_, rfl⟩
  rw [hb4] at hbx lg
  obtain ⟨w1, hw1⟩ : ∃ w1, w.alloc (.cells (a2 f t) 25) = w1 := ⟨_, rfl⟩
  rw [hw1] at B0 hbx C0 C1 ⊢
  clear hw1
  have HB4 := Lib.hid hb4
  simp only [hb4]
  have HBX := Lib.hid hbx
  have HB0 := Lib.hid B0
  obtain ⟨u0, u1, _⟩ := hbx.two
  clear B0 hbx hb4
  go_upto_region 3 with (first
    | (go_at_call 33; (with_reducible refine (C0.out).mono ?_); rintro e w2 ⟨rfl, rfl⟩)
    | (go_at_call 34; (with_reducible refine (C1.out).mono ?_); rintro e w2 ⟨b, rfl, hb, hb2⟩; have HBI := Lib.hid hb; have HB2 : Hid (Below w.heap.size w w2) := (acc HB0.out hb2); have HX2 := Lib.hid (HBX.out.below hb2); clear hb hb2; cases b))
  · go_wp2_with fail
    go_ret
    exact .inr ⟨(by simpa using HBI.out : ¬ s.may f t ep), rfl, HB2.out⟩
  · go_upto_region 3 with fail
    have HMAY : Hid (s.may f t ep) := (by simpa using HBI.out : s.may f t ep)
    have h2 := HH.out.below HB2.out
    obtain ⟨A, c, rfl, hnc, hc⟩ := h2.row.shape
    have H2 := Lib.hid h2
    have hgn : g ∉ (Value.slice A l.length c).ownBlock.toList := fun z => (h2.d2 g (Option.mem_toList.1 z)).2 h2.gate.cells.2.2.2.2.2.2.2
    have hbn : b4 ∉ (Value.slice A l.length c).ownBlock.toList := fun z => by have := HH.out.row.lt b4 (Option.mem_toList.1 z); rw [HB4.out] at this; exact Nat.lt_irrefl _ this
    have HSS : Hid (∀ w', Touch (Value.slice A l.length c).ownBlock.toList w2 w' → w'.cell? ⟨g, 3, none⟩ = some (.slice A l.length c) ∧ w'.cell? ⟨g, 0, none⟩ = some (.int .i64 s.nd) ∧ w'.cell? ⟨b4, 0, none⟩ = some (.int .u64 (f : Nat)) ∧ w'.cell? ⟨b4, 1, none⟩ = some (.int .u64 (t : Nat))) := fun w' tt =>
      ⟨(tt.cell (p := ⟨g, 3, none⟩) h2.lt hgn).trans h2.c3, (tt.cell (p := ⟨g, 0, none⟩) h2.lt hgn).trans h2.gate.cells.1, ((HX2.out.touch tt hbn).two).1, ((HX2.out.touch tt hbn).two).2.1⟩
    have HFZ : Hid (∀ w', Touch (Value.slice A l.length c).ownBlock.toList w2 w' → w'.frozen? ⟨g, 3, none⟩ = false) := fun w' tt => (tt.frozen (p := ⟨g, 3, none⟩) h2.lt hgn).trans (h2.gate.cells.2.2.2.2.2.1 3)
    have HROW := Lib.hid h2.row
    have HOL := Lib.hid h2.ol
    obtain ⟨n, hn⟩ : ∃ n, l.length = n := ⟨_, rfl⟩
    have HN := Lib.hid hn
    rw [hn] at HSS HFZ HROW hk2
    have hAn : (Value.slice A l.length c) = (Value.slice A n c) := by rw [hn]
    have HAN := Lib.hid hAn
    obtain ⟨i0, z0, hi0, hz0, hs0, hb0, hzc⟩ := infoOW_
    clear h2 hgn hbn u0 u1 hnc hn hAn
    refine wp_region_till (fun w' => w'.cell? ⟨g, 3, none⟩ = some (.slice A n c) ∧ w'.cell? ⟨g, 0, none⟩ = some (.int .i64 s.nd) ∧ w'.cell? ⟨b4, 0, none⟩ = some (.int .u64 (f : Nat)) ∧ w'.cell? ⟨b4, 1, none⟩ = some (.int .u64 (t : Nat))) 17 (by kernel_rfl) ?_ (fun hHeld => ?_)
    · (try dsimp only); exact HSS.out _ (Touch.ofBelow (Below.refl _ _).drew)
    refine wpAnyT_pure (i := 0) (oi := ⟨_, _, _, _, _, _⟩) (v := ?_) rfl (by kernel_rfl) (by kernel_rfl) (by kernel_rfl) (fun _ _ _ h => h) (by kernel_rfl) (Or.inl ⟨by rfl, ?_⟩) (by assumption) ?_
    rotate_left
    · (intro wS hSw; (try dsimp only at hSw); go_simp <;> with_reducible rfl)
    try simp only [Act.put, List.setIfInBounds_toArray, List.set_cons_zero, List.set_cons_succ]
    refine wpAnyT_pure (i := 1) (oi := ⟨_, _, _, _, _, _⟩) (v := ?_) rfl (by kernel_rfl) (by kernel_rfl) (by kernel_rfl) (fun _ _ _ h => h) (by kernel_rfl) (Or.inl ⟨by rfl, ?_⟩) (by assumption) ?_
    rotate_left
    · (intro wS hSw; (try dsimp only at hSw); go_simp <;> with_reducible rfl)
    try simp only [Act.put, List.setIfInBounds_toArray, List.set_cons_zero, List.set_cons_succ]
    refine wpAnyT_pure (i := 2) (oi := ⟨_, _, _, _, _, _⟩) (v := ?_) rfl (by kernel_rfl) (by kernel_rfl) (by kernel_rfl) (fun _ _ _ h => h) (by kernel_rfl) (Or.inl ⟨by rfl, ?_⟩) (by assumption) ?_
    rotate_left
    · (intro wS hSw; (try dsimp only at hSw); go_simp <;> with_reducible rfl)
    try simp only [Act.put, List.setIfInBounds_toArray, List.set_cons_zero, List.set_cons_succ]
    refine wpAnyT_pure (i := 3) (oi := ⟨_, _, _, _, _, _⟩) (v := ?_) rfl (by kernel_rfl) (by kernel_rfl) (by kernel_rfl) (fun _ _ _ h => h) (by kernel_rfl) (Or.inl ⟨by rfl, ?_⟩) (by assumption) ?_
    rotate_left
    · (intro wS hSw; (try dsimp only at hSw); go_simp <;> with_reducible rfl)
    try simp only [Act.put, List.setIfInBounds_toArray, List.set_cons_zero, List.set_cons_succ]
    refine wpAnyT_pure (i := 6) (oi := ⟨_, _, _, _, _, _⟩) (v := ?_) rfl (by kernel_rfl) (by kernel_rfl) (by kernel_rfl) (fun _ _ _ h => h) (by kernel_rfl) (Or.inl ⟨by rfl, ?_⟩) (by assumption) ?_
    rotate_left
    · (intro wS hSw; (try dsimp only at hSw); go_simp <;> with_reducible rfl)
    try simp only [Act.put, List.setIfInBounds_toArray, List.set_cons_zero, List.set_cons_succ]
    refine wpAnyT_pure (i := 7) (oi := ⟨_, _, _, _, _, _⟩) (v := ?_) rfl (by kernel_rfl) (by kernel_rfl) (by kernel_rfl) (fun _ _ _ h => h) (by kernel_rfl) (Or.inl ⟨by rfl, ?_⟩) (by assumption) ?_
    rotate_left
    · (intro wS hSw; (try dsimp only at hSw); go_simp <;> with_reducible rfl)
    try simp only [Act.put, List.setIfInBounds_toArray, List.set_cons_zero, List.set_cons_succ]
    refine wpAnyT_pure (i := 8) (oi := ⟨_, _, _, _, _, _⟩) (v := ?_) rfl (by kernel_rfl) (by kernel_rfl) (by kernel_rfl) (fun _ _ _ h => h) (by kernel_rfl) (Or.inl ⟨by rfl, ?_⟩) (by assumption) ?_
    rotate_left
    · (intro wS hSw; (try dsimp only at hSw); go_simp <;> with_reducible rfl)
    try simp only [Act.put, List.setIfInBounds_toArray, List.set_cons_zero, List.set_cons_succ]
    refine wpAnyT_pure (i := 10) (oi := ⟨_, _, _, _, _, _⟩) (v := ?_) rfl (by kernel_rfl) (by kernel_rfl) (by kernel_rfl) (fun _ _ _ h => h) (by kernel_rfl) (Or.inl ⟨by rfl, ?_⟩) (by assumption) ?_
    rotate_left
    · (intro wS hSw; (try dsimp only at hSw); go_simp <;> with_reducible rfl)
    try simp only [Act.put, List.setIfInBounds_toArray, List.set_cons_zero, List.set_cons_succ]
    refine wpAnyT_take (i := 4) (oi := ⟨_, _, _, _, _, _⟩) (v := ?_) rfl (by kernel_rfl) (by kernel_rfl) (by kernel_rfl) (fun _ _ _ h => h) (by kernel_rfl) (Or.inl ⟨by rfl, ?_⟩) (by assumption) ?_
    rotate_left
    · (intro wS hSw; (try dsimp only at hSw); go_simp <;> with_reducible rfl)
    try simp only [Act.put, List.setIfInBounds_toArray, List.set_cons_zero, List.set_cons_succ]
    refine wpAnyT_take (i := 5) (oi := ⟨_, _, _, _, _, _⟩) (v := ?_) rfl (by kernel_rfl) (by kernel_rfl) (by kernel_rfl) (fun _ _ _ h => h) (by kernel_rfl) (Or.inl ⟨by rfl, ?_⟩) (by assumption) ?_
    rotate_left
    · (intro wS hSw; (try dsimp only at hSw); go_simp <;> with_reducible rfl)
    try simp only [Act.put, List.setIfInBounds_toArray, List.set_cons_zero, List.set_cons_succ]
    refine wpAnyT_take (i := 9) (oi := ⟨_, _, _, _, _, _⟩) (v := ?_) rfl (by kernel_rfl) (by kernel_rfl) (by kernel_rfl) (fun _ _ _ h => h) (by kernel_rfl) (Or.inl ⟨by rfl, ?_⟩) (by assumption) ?_
    rotate_left
    · (intro wS hSw; (try dsimp only at hSw); go_simp <;> with_reducible rfl)
    try simp only [Act.put, List.setIfInBounds_toArray, List.set_cons_zero, List.set_cons_succ]
    refine wpAnyT_ready (rs := [11]) (by kernel_rfl) (by simp) ?_
    refine (AllReadyT.cons (o := ⟨_, _, _, _, _, _⟩) rfl (fun K hK => ?_) AllReadyT.nil)
    go_simp
    refine hK.out _ _ (by (try dsimp only); (first | exact HSS.out _ HT6.out | exact HSS.out _ HT5.out | exact HSS.out _ (Touch.ofBelow ((Below.refl _ _).drew.alloc (Nat.le_refl _) _)) | exact HSS.out _ (Touch.ofBelow (Below.refl _ _).drew))) (fun hHeld => ?_)
    clear hK K
    try simp only [Act.put, List.setIfInBounds_toArray, List.set_cons_zero, List.set_cons_succ]
    refine wpAnyT_ready (rs := [12]) (by kernel_rfl) (by simp) ?_
    refine (AllReadyT.cons (o := ⟨_, _, _, _, _, _⟩) rfl (fun K hK => ?_) AllReadyT.nil)
    go_simp
    refine hK.out _ _ (by (try dsimp only); (first | exact HSS.out _ HT6.out | exact HSS.out _ HT5.out | exact HSS.out _ (Touch.ofBelow ((Below.refl _ _).drew.alloc (Nat.le_refl _) _)) | exact HSS.out _ (Touch.ofBelow (Below.refl _ _).drew))) (fun hHeld => ?_)
    clear hK K
    try simp only [Act.put, List.setIfInBounds_toArray, List.set_cons_zero, List.set_cons_succ]
    refine wpAnyT_ready (rs := [13]) (by kernel_rfl) (by simp) ?_
    refine (AllReadyT.cons (o := ⟨_, _, _, _, _, _⟩) rfl (fun K hK => ?_) AllReadyT.nil)
    refine step_append_at rfl (.tmp 20) (.tmp 28) 57 rfl 60 i0 z0 4 32 Tryz.underlying57 hi0 hz0 hs0 hb0 hzc (.slice A n c) n (rowC (oC s.nd) l) rfl (HROW.out.below ((Below.refl _ _).drew.alloc (Nat.le_refl _) _)) ⟨w2.heap.size, 0, none⟩ 1 (rowC (oC s.nd) [⟨f, t, 0, ep⟩]) rfl rfl (fun j u hu => nw_new w2.drew s.nd ⟨f, t, 0, ep⟩ j u hu) (oC_one _ _) (by unfold maxLen; omega) (by omega) ?_
    intro A5 c5 w5 ho5 hg5 hs5
    have HT5 : Hid (Touch (Value.slice A n c).ownBlock.toList w2 w5) := ((Touch.ofBelow ((Below.refl _ _).drew.alloc (Nat.le_refl _) _)).grown hg5 (fun k hk => .inl (Option.mem_toList.2 hk)))
    have HO5 : Hid (OwRow w5 (.slice A5 (n + 1) c5) (n + 1) s.nd (l ++ [⟨f, t, 0, ep⟩])) := (by show OwnAt _ _ _ _ _ _; rw [rowC_append]; exact ho5)
    have HS5 := Lib.hid hs5
    clear ho5 hg5 hs5
    refine hK.out _ _ (by (try dsimp only); (first | exact HSS.out _ HT6.out | exact HSS.out _ HT5.out | exact HSS.out _ (Touch.ofBelow ((Below.refl _ _).drew.alloc (Nat.le_refl _) _)) | exact HSS.out _ (Touch.ofBelow (Below.refl _ _).drew))) (fun hHeld => ?_)
    clear hK K
    try simp only [Act.put, List.setIfInBounds_toArray, List.set_cons_zero, List.set_cons_succ]
    refine wpAnyT_ready (rs := [14]) (by kernel_rfl) (by simp) ?_
    refine (AllReadyT.cons (o := ⟨_, _, _, _, _, _⟩) rfl (fun K hK => ?_) AllReadyT.nil)
    go_simp
    (first | (go_at_call 35; (with_reducible refine (joinedSame_any (l ++ [⟨f, t, 0, ep⟩]) s.nd A5 c5 (n + 1) w5 HO5.out (by omega) (by
      intro p hp
      rcases List.mem_append.1 hp with z | z
      · exact HOL.out.arcs.lt p z
      · rw [List.mem_singleton.1 z]; exact HFT.out)).mono ?_); rintro e w6 ⟨D, S2, hp, hs, rfl, ho, hn6, ht6⟩))
    obtain ⟨A6, c6, rfl, hcc1, hcc2⟩ := ho.shape
    clear hcc1 hcc2
    have HP := Lib.hid hp
    have HSO := Lib.hid hs
    have HO6 := Lib.hid ho
    have HN6 := Lib.hid hn6
    have HT6 : Hid (Touch (Value.slice A n c).ownBlock.toList w2 w6) := HT5.out.trans ht6 (fun q hq => by
      rcases HS5.out q (Option.mem_toList.1 hq) with z | z
      · exact .inl (Option.mem_toList.2 z)
      · exact .inr (by simp at z; omega))
    have f3 := HFZ.out _ HT6.out
    obtain ⟨y3, y0, y4, y5⟩ := HSS.out _ HT6.out
    clear hp hs ho hn6 ht6
    go_wp2_with fail
    refine hK.out _ _ (by (try dsimp only); (first | exact HSS.out _ HT6.out | exact HSS.out _ HT5.out | exact HSS.out _ (Touch.ofBelow ((Below.refl _ _).drew.alloc (Nat.le_refl _) _)) | exact HSS.out _ (Touch.ofBelow (Below.refl _ _).drew))) (fun hHeld => ?_)
    clear hK K
    try simp only [Act.put, List.setIfInBounds_toArray, List.set_cons_zero, List.set_cons_succ]
    refine wpAnyT_pure (i := 15) (oi := ⟨_, _, _, _, _, _⟩) (v := ?_) rfl (by kernel_rfl) (by kernel_rfl) (by kernel_rfl) (fun _ _ _ h => h) (by kernel_rfl) (Or.inl ⟨by rfl, ?_⟩) (by assumption) ?_
    rotate_left
    · (intro wS hSw; (try dsimp only at hSw); go_simp <;> with_reducible rfl)
    try simp only [Act.put, List.setIfInBounds_toArray, List.set_cons_zero, List.set_cons_succ]
    refine wpAnyT_pure (i := 16) (oi := ⟨_, _, _, _, _, _⟩) (v := ?_) rfl (by kernel_rfl) (by kernel_rfl) (by kernel_rfl) (fun _ _ _ h => h) (by kernel_rfl) (Or.inl ⟨by rfl, ?_⟩) (by assumption) ?_
    rotate_left
    · (intro wS hSw; (try dsimp only at hSw); go_simp <;> with_reducible rfl)
    try simp only [Act.put, List.setIfInBounds_toArray, List.set_cons_zero, List.set_cons_succ]
    refine wpAnyT_ready (rs := [17]) (by kernel_rfl) (by simp) ?_
    refine (AllReadyT.past (o := ⟨_, _, _, _, _, _⟩) rfl (by kernel_rfl) (fun K hK => ?_) AllReadyT.nil)
    go_simp
    refine hK.out _ _ ?_
    clear hK K
    try simp only [Act.put, List.setIfInBounds_toArray, List.set_cons_zero, List.set_cons_succ]
    refine wpAnyT_done (by kernel_rfl) ?_ _
    go_wp2_with fail
    go_ret
    refine .inl ⟨HMAY.out, joinJ false D, _, rfl, ?_, ?_, fun q hq => Nat.le_trans HB2.out.size (Nat.le_trans HT5.out.size (HN6.out q hq))⟩
    · have hm := (may_iff HOL.out HFT.out.1 HFT.out.2).2 HMAY.out.2
      obtain ⟨k1, k2⟩ := take_ok HOL.out HFT.out.1 HFT.out.2 HMAY.out.1 HWE.out.2 hm HP.out HSO.out
      have z := H2.out.setOwned k1 (by omega) (by rw [HAN.out]; exact HT6.out) HO6.out (fun q hq => Nat.le_trans HT5.out.size (HN6.out q hq))
      first | exact z | exact z.below (Below.refl _ _).drew
    · have hg : g ∈ (Value.slice A l.length c).ownBlock.toList ++ Fg := List.mem_append_right _ H2.out.gate.cells.2.2.2.2.2.2.2
      have z : Touch ((Value.slice A l.length c).ownBlock.toList ++ Fg) w w6 := (Touch.ofBelow HB2.out).trans HT6.out (fun q hq => .inl (List.mem_append_left _ (by rw [HAN.out]; exact hq)))
      first | exact z.set (.inl hg) _ | exact (z.set (.inl hg) _).drew
end Go.Proofs.YthgndgoljchnfaaGreat
namespace Go.Proofs.YthgndgoljchnfaaGreat.Hd
open Go.RowKit Go.Proofs.YthgndgoljchnfaaGreat

theorem bool_ext {a b : Bool} (h : a = true ↔ b = true) : a = b := Bool.eq_iff_iff.2 h
theorem mem_delN {l : List Item} (h : Rising l) (k : ByteArray) (x : Item) : x ∈ delN l k ↔ x ∈ l ∧ x.1 ≠ k := by
  have nu : ∀ {a : List Item}, Under a k → ∀ {x}, x ∈ a → x.1 ≠ k := fun ha x hx e => by
    have := ha x hx; rw [e, lessB_irrefl] at this; cases this
  have no : ∀ {b : List Item}, (∀ y ∈ b, lessB k y.1 = true) → ∀ {x}, x ∈ b → x.1 ≠ k := fun hb x hx e => by
    have := hb x hx; rw [e, lessB_irrefl] at this; cases this
  rcases rising_cases h k with ⟨a, u, b, rfl, ha, hb⟩ | ⟨a, b, rfl, ha, hb⟩
  · rw [show delN (a ++ (k, u) :: b) k = a ++ b from delN_key (x := (k, u)) ha b]
    simp only [List.mem_append, List.mem_cons]
    constructor
    · rintro (z | z)
      · exact ⟨.inl z, nu ha z⟩
      · exact ⟨.inr (.inr z), no hb z⟩
    · rintro ⟨z | z | z, hn⟩
      · exact .inl z
      · exact absurd (by rw [z]) hn
      · exact .inr z
  · rw [delN_under ha, (over_none hb).2.2]
    simp only [List.mem_append]
    constructor
    · rintro (z | z)
      · exact ⟨.inl z, nu ha z⟩
      · exact ⟨.inr z, no hb z⟩
    · rintro ⟨z, _⟩
      exact z
theorem hasN_put {l : List Item} (h : Rising l) (k v j : ByteArray) : hasN (putN l k v) j = (decide (j = k) || hasN l j) := by
  apply bool_ext
  rw [hasN_iff (h.put k v), Bool.or_eq_true, decide_eq_true_iff, hasN_iff h]
  constructor
  · rintro ⟨x, hx, rfl⟩
    rcases (mem_putN h k v x).1 hx with rfl | ⟨z, _⟩
    · exact .inl rfl
    · exact .inr ⟨x, z, rfl⟩
  · rintro (rfl | ⟨x, hx, rfl⟩)
    · exact ⟨(j, v), (mem_putN h j v _).2 (.inl rfl), rfl⟩
    · by_cases e : x.1 = k
      · exact ⟨(k, v), (mem_putN h k v _).2 (.inl rfl), e.symm⟩
      · exact ⟨x, (mem_putN h k v _).2 (.inr ⟨hx, e⟩), rfl⟩
theorem hasN_del {l : List Item} (h : Rising l) (k j : ByteArray) : hasN (delN l k) j = (!decide (j = k) && hasN l j) := by
  apply bool_ext
  rw [hasN_iff (h.del k), Bool.and_eq_true, Bool.not_eq_true', decide_eq_false_iff_not, hasN_iff h]
  constructor
  · rintro ⟨x, hx, rfl⟩
    obtain ⟨a, b⟩ := (mem_delN h k x).1 hx
    exact ⟨b, x, a, rfl⟩
  · rintro ⟨hn, x, hx, rfl⟩
    exact ⟨x, (mem_delN h k x).2 ⟨hx, hn⟩, rfl⟩
theorem getI_mem {l : List Item} (h : Rising l) {k v : ByteArray} (hm : (k, v) ∈ l) : getI l k = v := by
  rcases rising_cases h k with ⟨a, u, b, rfl, ha, hb⟩ | ⟨a, b, rfl, ha, hb⟩
  · have e : u = v := by
      rcases List.mem_append.1 hm with z | z
      · have := ha _ z; rw [lessB_irrefl] at this; cases this
      · rcases List.mem_cons.1 z with z | z
        · injection z with _ z; exact z.symm
        · have := hb _ z; rw [lessB_irrefl] at this; cases this
    subst e
    have p : placeN (a ++ (k, u) :: b) k = a.length := by rw [placeN_under ha, placeN, lessB_irrefl]; rfl
    simp [getI, p]
  · rcases List.mem_append.1 hm with z | z
    · have := ha _ z; rw [lessB_irrefl] at this; cases this
    · have := hb _ z; rw [lessB_irrefl] at this; cases this
theorem getI_not {l : List Item} {k : ByteArray} (h : hasN l k = false) : getI l k = ByteArray.empty := by
  unfold hasN at h
  unfold getI
  split
  · rename_i x e
    rw [e] at h
    rw [if_neg (by simpa using h)]
  · rfl
theorem getI_put_same {l : List Item} (h : Rising l) (k v : ByteArray) : getI (putN l k v) k = v := getI_mem (h.put k v) ((mem_putN h k v _).2 (.inl rfl))
theorem getI_put_other {l : List Item} (h : Rising l) (k v : ByteArray) {j : ByteArray} (hn : j ≠ k) : getI (putN l k v) j = getI l j := by
  cases hh : hasN l j with
  | true =>
    obtain ⟨x, hx, rfl⟩ := (hasN_iff h j).1 hh
    rw [getI_mem h (v := x.2) hx, getI_mem (h.put k v) (v := x.2) ((mem_putN h k v _).2 (.inr ⟨hx, hn⟩))]
  | false => rw [getI_not hh, getI_not (by rw [hasN_put h, hh]; simp [hn])]
theorem getI_del_other {l : List Item} (h : Rising l) (k : ByteArray) {j : ByteArray} (hn : j ≠ k) : getI (delN l k) j = getI l j := by
  cases hh : hasN l j with
  | true =>
    obtain ⟨x, hx, rfl⟩ := (hasN_iff h j).1 hh
    rw [getI_mem h (v := x.2) hx, getI_mem (h.del k) (v := x.2) ((mem_delN h k _).2 ⟨hx, hn⟩)]
  | false => rw [getI_not hh, getI_not (by rw [hasN_del h, hh]; simp)]
end Go.Proofs.YthgndgoljchnfaaGreat.Hd
