/-
  The code's gate: Freeze, Thaw, Arc, Frozen.
-/
import Derived.Test.YtompbhkmaalioaaGateMem
import Derived.Test.YtompbhkmaalioaaArcIn
namespace Go.Proofs.Ytompbhkmaalioaa
open Go.RowKit

/-- what a call that writes the gate's own cells alone leaves -/
theorem vg_head {w w' : World} {g : Nat} {s s1 : GS} {x : GRow} {R : List GRow} (h : GM w g s x R) (t : Touch [g] w w') (hg : w'.heap[g]? = some (.cells (gC s1 (x :: R)).toArray 31)) (hl : s1.l = s.l) (hb : s1.f < 18446744073709551616 ∧ s1.t < 18446744073709551616 ∧ (s1.shut = false → s1.f = 0 ∧ s1.t = 0)) :
    ∃ F1, VG w' g s1 F1 ∧ Touch (gF g (x :: R)) w w' ∧ ∀ q ∈ F1, q ∈ gF g (x :: R) ∨ w.heap.size ≤ q :=
  ⟨_, ⟨x, R, h.head t hg hl hb, rfl⟩, t.mono (fun q hq => mem_gF.2 (.inl (by simpa using hq))), fun q hq => .inl hq⟩
/-- what a call that writes nothing leaves -/
theorem vg_same {w w' : World} {g : Nat} {s : GS} {x : GRow} {R : List GRow} (h : GM w g s x R) (b : Below w.heap.size w w') :
    ∃ F1, VG w' g s F1 ∧ Touch (gF g (x :: R)) w w' ∧ ∀ q ∈ F1, q ∈ gF g (x :: R) ∨ w.heap.size ≤ q :=
  ⟨_, ⟨x, R, h.below b, rfl⟩, Touch.ofBelow b, fun _ hq => .inl hq⟩
theorem gm_three {w : World} {g : Nat} {cs : Array Value} {T : TypeId} (h : w.heap[g]? = some (.cells cs T)) (a b c : Value) :
    Touch [g] w (((w.setCell ⟨g, 0, none⟩ a).setCell ⟨g, 1, none⟩ b).setCell ⟨g, 2, none⟩ c) ∧ (((w.setCell ⟨g, 0, none⟩ a).setCell ⟨g, 1, none⟩ b).setCell ⟨g, 2, none⟩ c).heap[g]? = some (.cells (((cs.setIfInBounds 0 a).setIfInBounds 1 b).setIfInBounds 2 c) T) :=
  ⟨(((Touch.refl _ _).set (.inl (by simp)) _).set (.inl (by simp)) _).set (.inl (by simp)) _, gm_set (gm_set (gm_set h 0 a) 1 b) 2 c⟩
/-- the three cells of what is shut were written -/
theorem vg_three {w w' : World} {g : Nat} {s s1 : GS} {x : GRow} {R : List GRow} (h : GM w g s x R) (hl : s1.l = s.l) (hb : s1.f < 18446744073709551616 ∧ s1.t < 18446744073709551616 ∧ (s1.shut = false → s1.f = 0 ∧ s1.t = 0))
    (b : Below w.heap.size (((w.setCell ⟨g, 0, none⟩ (.bool s1.shut)).setCell ⟨g, 1, none⟩ (.int .u64 (s1.f : Nat))).setCell ⟨g, 2, none⟩ (.int .u64 (s1.t : Nat))) w') :
    ∃ F1, VG w' g s1 F1 ∧ Touch (gF g (x :: R)) w w' ∧ ∀ q ∈ F1, q ∈ gF g (x :: R) ∨ w.heap.size ≤ q := by
  obtain ⟨t, k⟩ := gm_three h.hg (.bool s1.shut) (.int .u64 (s1.f : Nat)) (.int .u64 (s1.t : Nat))
  have hz : (((w.setCell ⟨g, 0, none⟩ (.bool s1.shut)).setCell ⟨g, 1, none⟩ (.int .u64 (s1.f : Nat))).setCell ⟨g, 2, none⟩ (.int .u64 (s1.t : Nat))).heap.size = w.heap.size := by simp [World.setCell]
  refine vg_head h (t.trans (Touch.ofBelow (F := [g]) (hz ▸ b)) fun q hq => .inl hq) ?_ hl hb
  rw [b.block g h.lt, k]
  simp [gC]
set_option maxHeartbeats 1000000 in
theorem gateFreeze_any {w : World} {g : Nat} {s : GS} {F : List Nat} (f t : Nat) (hf : f < 18446744073709551616) (ht : t < 18446744073709551616) (h : VG w g s F) :
    Calls Try.prog 8 #[.pointer (some ⟨g, 0, none⟩), .agg #[.int .u64 (f : Nat), .int .u64 (t : Nat)]] w fun e w' =>
    ∃ F1, e = .returned (.bool !s.shut) ∧ VG w' g (s.freeze f t) F1 ∧ Touch F w w' ∧ ∀ q ∈ F1, q ∈ F ∨ w.heap.size ≤ q := by
  obtain ⟨x, R, h, rfl⟩ := h
  have c0 := h.c0
  have c1 := h.c1
  have c2 := h.c2
  have z0 := h.free 0
  have z1 := h.free 1
  have z2 := h.free 2
  have hlt := h.lt
  have HG := Lib.hid h
  cases hs : s.shut with
  | true =>
    rw [hs] at c0
    have HF : Hid (s.freeze f t = s) := by show s.freeze f t = s; unfold GS.freeze; rw [hs]; rfl
    have HS := Lib.hid hs
    clear h hs
    go_enter Try.func8, Try.ntmps8
    go_wp2
    go_ret
    rw [HF.out]
    obtain ⟨F1, z⟩ := vg_same HG.out ((Below.refl _ _).alloc (Nat.le_refl _) _)
    exact ⟨F1, rfl, z⟩
  | false =>
    rw [hs] at c0
    have HS := Lib.hid hs
    clear h hs
    go_enter Try.func8, Try.ntmps8
    go_wp2
    go_region
    go_wp2
    go_ret
    have HF : s.freeze f t = ⟨true, f, t, s.l, s.k⟩ := by unfold GS.freeze; rw [HS.out]; rfl
    rw [HF]
    obtain ⟨F1, z⟩ := vg_three (s1 := ⟨true, f, t, s.l, s.k⟩) HG.out rfl ⟨hf, ht, fun z => by cases z⟩ (((Below.refl w.heap.size _).alloc (by simp [World.setCell]) _).drew)
    exact ⟨F1, rfl, z⟩
set_option maxHeartbeats 1000000 in
theorem gateThaw_any {w : World} {g : Nat} {s : GS} {F : List Nat} (h : VG w g s F) : Calls Try.prog 9 #[.pointer (some ⟨g, 0, none⟩)] w fun e w' =>
    ∃ F1, e = .returned (.bool s.shut) ∧ VG w' g s.thaw F1 ∧ Touch F w w' ∧ ∀ q ∈ F1, q ∈ F ∨ w.heap.size ≤ q := by
  obtain ⟨x, R, h, rfl⟩ := h
  have c0 := h.c0
  have c1 := h.c1
  have c2 := h.c2
  have z0 := h.free 0
  have z1 := h.free 1
  have z2 := h.free 2
  have hlt := h.lt
  have HG := Lib.hid h
  cases hs : s.shut with
  | false =>
    rw [hs] at c0
    have HF : Hid (s.thaw = s) := by
      show s.thaw = s
      obtain ⟨h1, h2⟩ := h.b.2.2 hs
      obtain ⟨a, b, c, d, k⟩ := s
      simp only at hs h1 h2
      subst hs h1 h2
      rfl
    clear h hs
    go_enter Try.func9, Try.ntmps9
    go_wp2
    go_ret
    rw [HF.out]
    obtain ⟨F1, z⟩ := vg_same HG.out (Below.refl _ _)
    exact ⟨F1, rfl, z⟩
  | true =>
    rw [hs] at c0
    clear h hs
    go_enter Try.func9, Try.ntmps9
    go_wp2
    go_ret
    obtain ⟨F1, z⟩ := vg_three (s1 := s.thaw) HG.out rfl ⟨Nat.zero_lt_succ _, Nat.zero_lt_succ _, fun _ => ⟨rfl, rfl⟩⟩ (Below.refl w.heap.size _)
    exact ⟨F1, rfl, z⟩
set_option maxHeartbeats 1000000 in
theorem gateArc_any {w : World} {g : Nat} {s : GS} {F : List Nat} (h : VG w g s F) : Calls Try.prog 14 #[.pointer (some ⟨g, 0, none⟩)] w fun e w' => e = .returned (.tuple #[.agg #[.int .u64 (s.f : Nat), .int .u64 (s.t : Nat)], .bool s.shut]) ∧ Below w.heap.size w w' := by
  obtain ⟨x, R, h, rfl⟩ := h
  have c0 := h.c0
  have c1 := h.c1
  have c2 := h.c2
  have hlt := h.lt
  clear h
  go_enter Try.func14, Try.ntmps14
  go_wp2
  go_region
  go_wp2
  exact bodyPost_ret (v := .tuple #[.agg #[.int .u64 (s.f : Nat), .int .u64 (s.t : Nat)], .bool s.shut]) (by simp [results, Try.results14, go_sem]) rfl ⟨rfl, ((Below.refl _ _).alloc (Nat.le_refl _) _).drew⟩
set_option maxHeartbeats 1000000 in
theorem gateFrozen_any {w : World} {g : Nat} {s : GS} {F : List Nat} (x : Nat) (hx : x < 18446744073709551616) (h : VG w g s F) : Calls Try.prog 18 #[.pointer (some ⟨g, 0, none⟩), .int .u64 (x : Nat)] w fun e w' => e = .returned (.bool (s.frozen x)) ∧ Below w.heap.size w w' := by
  have CA := Lib.hid (gateArc_any h)
  have CI : Hid (∀ W, Calls Try.prog 20 #[.agg #[.int .u64 (s.f : Nat), .int .u64 (s.t : Nat)], .int .u64 (x : Nat)] W fun e w' => e = .returned (.bool (inB s.f s.t x)) ∧ Below W.heap.size W w') := by
    obtain ⟨_, _, h, _⟩ := h
    exact fun W => in_any s.f s.t x W h.b.1 h.b.2.1 hx
  unfold GS.frozen
  generalize inB s.f s.t x = ans at *
  generalize s.shut = sh at *
  clear h hx
  go_enter Try.func18, Try.ntmps18
  cases sh
  all_goals
    go_wp2_with (first
      | (go_at_call 14; (with_reducible refine (CA.out).mono ?_); rintro e w1 ⟨rfl, h1⟩; have HB1 := Lib.hid h1; clear h1)
      | (go_at_call 20; (with_reducible refine (CI.out _).mono ?_); rintro e w2 ⟨rfl, h2⟩; have HB2 := Lib.hid h2; clear h2))
    go_ret
    first
      | exact ⟨rfl, HB1.out.alloc HB1.out.size _⟩
      | exact ⟨rfl, acc (HB1.out.alloc HB1.out.size _) HB2.out⟩
section
variable (w : World)
theorem gateFreeze_nil (f t : Nat) : Calls Try.prog 8 #[.pointer none, .agg #[.int .u64 (f : Nat), .int .u64 (t : Nat)]] w fun e w' => e = .returned (.bool false) ∧ Below w.heap.size w w' := by
  go_enter Try.func8, Try.ntmps8
  go_wp2
  go_ret
  exact ⟨rfl, (Below.refl _ _).alloc (Nat.le_refl _) _⟩
theorem gateThaw_nil : Calls Try.prog 9 #[.pointer none] w fun e w' => e = .returned (.bool false) ∧ Below w.heap.size w w' := by
  go_enter Try.func9, Try.ntmps9
  go_wp2
  go_ret
  exact ⟨rfl, Below.refl _ _⟩
theorem gateArc_nil : Calls Try.prog 14 #[.pointer none] w fun e w' => e = .returned (.tuple #[.agg #[.int .u64 0, .int .u64 0], .bool false]) ∧ Below w.heap.size w w' := by
  go_enter Try.func14, Try.ntmps14
  go_wp2
  exact bodyPost_ret (v := .tuple #[.agg #[.int .u64 0, .int .u64 0], .bool false]) (by simp [results, Try.results14, go_sem]) rfl ⟨rfl, (Below.refl _ _).alloc (Nat.le_refl _) _⟩
theorem gateFrozen_nil (x : Nat) : Calls Try.prog 18 #[.pointer none, .int .u64 (x : Nat)] w fun e w' => e = .returned (.bool false) ∧ Below w.heap.size w w' := by
  have CA := Lib.hid (gateArc_nil w)
  go_enter Try.func18, Try.ntmps18
  go_wp2_with (go_at_call 14; (with_reducible refine (CA.out).mono ?_); rintro e w1 ⟨rfl, h1⟩; have HB1 := Lib.hid h1; clear h1)
  go_ret
  exact ⟨rfl, HB1.out.alloc HB1.out.size _⟩
theorem gatePoint_nil (f t : Nat) (n : Int) : Calls Try.prog 10 #[.pointer none, .agg #[.int .u64 (f : Nat), .int .u64 (t : Nat)], .int .i64 n] w fun e w' => e = .returned (.tuple #[]) ∧ Below w.heap.size w w' := by
  go_enter Try.func10, Try.ntmps10
  go_wp2
  refine bodyPost_ret (results_none rfl _ _ _) rfl ?_
  exact ⟨rfl, (Below.refl _ _).alloc (Nat.le_refl _) _⟩
theorem gateTick_nil : Calls Try.prog 12 #[.pointer none] w fun e w' => e = .returned (.tuple #[]) ∧ Below w.heap.size w w' := by
  go_enter Try.func12, Try.ntmps12
  go_wp2
  refine bodyPost_ret (results_none rfl _ _ _) rfl ?_
  exact ⟨rfl, Below.refl _ _⟩
theorem gatePoints_nil : Calls Try.prog 15 #[.pointer none] w fun e w' => e = .returned (.int .i64 0) ∧ Below w.heap.size w w' := by
  go_enter Try.func15, Try.ntmps15
  go_wp2
  go_ret
  exact ⟨rfl, Below.refl _ _⟩
end
end Go.Proofs.Ytompbhkmaalioaa
