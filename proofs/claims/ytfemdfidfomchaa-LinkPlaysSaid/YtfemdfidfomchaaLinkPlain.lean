/-
  New; what only reads a link: leads, first, takes, Waits, Came, Rest.
-/
import Derived.Test.YtfemdfidfomchaaLinkOwn
namespace Go.Proofs.Ytfemdfidfomchaa
open Go.RowKit

abbrev LS.new (me peer : Int) : LS := ⟨me, peer, 0, [], 0, [], 0⟩
theorem new_any (me peer : Int) (W : World) : Calls Try.prog 11 #[.int .i64 me, .int .i64 peer] W fun e w' => e = .returned (.pointer (some ⟨W.heap.size, 0, none⟩)) ∧ LNX w' W.heap.size (LS.new me peer) (.slice none 0 0) (.slice none 0 0) [] ∧ Below W.heap.size W w' := by
  go_enter Try.func11, Try.ntmps11
  go_wp2
  go_ret
  refine ⟨rfl, ⟨?_, OwnAt.nil _ _ _, World.ownsRow_nil _ _ _ _, by simp [Value.ownBlock], by simp [Value.ownBlock], by simp [Value.ownBlock], by simp, by simp, by simp, by simp⟩, (Below.refl _ _).alloc (Nat.le_refl _) _⟩
  exact heap_alloc_new _ _
theorem leads_any {W : World} {g : Nat} (c0 : W.cell? ⟨g, 0, none⟩ = some (.bool true)) : Calls Try.prog 26 #[.pointer (some ⟨g, 0, none⟩)] W fun e w' => e = .returned (.bool true) ∧ w' = W := by
  go_enter Try.func26, Try.ntmps26
  go_wp2
  go_ret
  exact ⟨rfl, rfl⟩
theorem leadsNil_any (W : World) : Calls Try.prog 26 #[.pointer none] W fun e w' => e = .returned (.bool false) ∧ w' = W := by
  go_enter Try.func26, Try.ntmps26
  go_wp2
  go_ret
  exact ⟨rfl, rfl⟩
theorem waits_any {W : World} {g : Nat} {s : LS} {V K : Value} {L : List Nat} (h : LNX W g s V K L) : Calls Try.prog 21 #[.pointer (some ⟨g, 0, none⟩)] W fun e w' => e = .returned (.int .i64 (s.waits.length : Nat)) ∧ w' = W := by
  have c4 := h.c4
  obtain ⟨A, c, rfl, _, _⟩ := h.v.shape
  clear h
  go_enter Try.func21, Try.ntmps21
  go_wp2
  go_ret
  exact ⟨rfl, rfl⟩
theorem came_any {W : World} {g : Nat} {s : LS} {V K : Value} {L : List Nat} (h : LNX W g s V K L) : Calls Try.prog 22 #[.pointer (some ⟨g, 0, none⟩)] W fun e w' => e = .returned (.int .i64 (s.came : Nat)) ∧ w' = W := by
  have c5 := h.c5
  clear h
  go_enter Try.func22, Try.ntmps22
  go_wp2
  go_ret
  exact ⟨rfl, rfl⟩
/-- does nothing wait, and nothing is kept? -/
def LS.rest (s : LS) : Bool := decide (s.waits.length = 0) && decide (s.kept.length = 0)
theorem rest_any {W : World} {g : Nat} {s : LS} {V K : Value} {L : List Nat} (h : LNX W g s V K L) : Calls Try.prog 23 #[.pointer (some ⟨g, 0, none⟩)] W fun e w' => e = .returned (.bool s.rest) ∧ w' = W := by
  have c4 := h.c4
  have c6 := h.c6
  obtain ⟨A, c, rfl, _, _⟩ := h.v.shape
  obtain ⟨B, d, rfl⟩ := own_slice h.k
  clear h
  unfold LS.rest
  generalize s.waits.length = n at *
  generalize s.kept.length = m at *
  by_cases h1 : n = 0
  · have d1 : ((n : Int) == 0) = true := by simp; omega
    by_cases h2 : m = 0
    · have d2 : ((m : Int) == 0) = true := by simp; omega
      rw [decide_eq_true h1, decide_eq_true h2]
      go_enter Try.func23, Try.ntmps23
      go_wp2
      go_ret
      exact ⟨rfl, rfl⟩
    · have d2 : ((m : Int) == 0) = false := by simp; omega
      rw [decide_eq_true h1, decide_eq_false h2]
      go_enter Try.func23, Try.ntmps23
      go_wp2
      go_ret
      exact ⟨rfl, rfl⟩
  · have d1 : ((n : Int) == 0) = false := by simp; omega
    rw [decide_eq_false h1]
    go_enter Try.func23, Try.ntmps23
    go_wp2
    go_ret
    exact ⟨rfl, rfl⟩
theorem waitsNil_any (W : World) : Calls Try.prog 21 #[.pointer none] W fun e w' => e = .returned (.int .i64 0) ∧ w' = W := by
  go_enter Try.func21, Try.ntmps21
  go_wp2
  go_ret
  exact ⟨rfl, rfl⟩
theorem cameNil_any (W : World) : Calls Try.prog 22 #[.pointer none] W fun e w' => e = .returned (.int .i64 0) ∧ w' = W := by
  go_enter Try.func22, Try.ntmps22
  go_wp2
  go_ret
  exact ⟨rfl, rfl⟩
theorem restNil_any (W : World) : Calls Try.prog 23 #[.pointer none] W fun e w' => e = .returned (.bool true) ∧ w' = W := by
  go_enter Try.func23, Try.ntmps23
  go_wp2
  go_ret
  exact ⟨rfl, rfl⟩
theorem first_any {W : World} {g : Nat} {s : LS} {V K : Value} {L : List Nat} (h : LNX W g s V K L) (hw : s.waits.length ≤ s.sent) (hb : s.sent ≤ 1000000) :
    Calls Try.prog 29 #[.pointer (some ⟨g, 0, none⟩)] W fun e w' => e = .returned (.int .i64 ((s.sent : Int) - (s.waits.length : Nat) + 1)) ∧ ∃ n, w' = W.drewN n := by
  have c4 := h.c4
  have c3 := h.c3
  obtain ⟨A, c, rfl, _, _⟩ := h.v.shape
  clear h
  generalize s.waits.length = n at *
  generalize s.sent = m at *
  have z1 : IntKind.i64.wrap ((m : Int) - (n : Nat)) = (m : Int) - (n : Nat) := by rw [IntKind.wrap_i64]; omega
  have z2 : IntKind.i64.wrap ((m : Int) - (n : Nat) + 1) = (m : Int) - (n : Nat) + 1 := by rw [IntKind.wrap_i64]; omega
  go_enter Try.func29, Try.ntmps29
  go_upto_region 1 with fail
  go_quiet (fail)
  go_wp2
  go_ret
  exact ⟨rfl, _, rfl⟩
/-- may a packet have come on it? -/
def LS.takes (s : LS) (p : PR) : Prop := p.f = s.peer ∧ p.t = s.me ∧ 0 ≤ p.s ∧ 0 ≤ p.a ∧ p.a ≤ (s.sent : Nat)
set_option maxRecDepth 20000 in
set_option maxHeartbeats 2000000 in
theorem takes_any {W : World} {g : Nat} {s : LS} {V K : Value} {L : List Nat} (h : LNX W g s V K L) (p : PR) (b : Bool) (hp : s.takes p ↔ b = true) :
    Calls Try.prog 30 #[.pointer (some ⟨g, 0, none⟩), .agg p.cells] W fun e w' => e = .returned (.bool b) ∧ Below W.heap.size W w' := by
  have B1 : Below W.heap.size W (W.alloc (.cells p.cells 53)) := (Below.refl _ _).alloc (Nat.le_refl _) _
  have b1 : (W.alloc (.cells p.cells 53)).heap[W.heap.size]? = some (.cells p.cells 53) := heap_alloc_new W _
  have h1 := h.below B1
  obtain ⟨w1, hw1⟩ : ∃ w1, W.alloc (.cells p.cells 53) = w1 := ⟨_, rfl⟩
  rw [hw1] at B1 b1 h1
  have x0 : w1.cell? ⟨W.heap.size, 0, none⟩ = some (.int .i64 p.f) := bg_cell b1 rfl
  have x1 : w1.cell? ⟨W.heap.size, 1, none⟩ = some (.int .i64 p.t) := bg_cell b1 rfl
  have x2 : w1.cell? ⟨W.heap.size, 2, none⟩ = some (.int .i64 p.s) := bg_cell b1 rfl
  have x3 : w1.cell? ⟨W.heap.size, 3, none⟩ = some (.int .i64 p.a) := bg_cell b1 rfl
  have c1 := h1.c1
  have c2 := h1.c2
  have c3 := h1.c3
  have CL : Hid (∀ n, Calls Try.prog 26 #[.pointer (some ⟨g, 0, none⟩)] (w1.drewN n) fun e w' => e = .returned (.bool true) ∧ w' = w1.drewN n) := fun n => leads_any (h1.drewN n).c0
  have HB := Lib.hid B1
  unfold LS.takes at hp
  clear h h1 B1 b1
  obtain ⟨sn, hsn⟩ : ∃ n : Nat, s.sent = n := ⟨_, rfl⟩
  rw [hsn] at hp c3
  clear hsn
  obtain ⟨me, hme⟩ : ∃ n : Int, s.me = n := ⟨_, rfl⟩
  rw [hme] at hp c1
  clear hme
  obtain ⟨pr, hpr⟩ : ∃ n : Int, s.peer = n := ⟨_, rfl⟩
  rw [hpr] at hp c2
  clear hpr
  by_cases t0 : p.f = pr
  · by_cases t1 : p.t = me
    · by_cases t2 : 0 ≤ p.s
      · by_cases t3 : 0 ≤ p.a
        · by_cases t4 : p.a ≤ (sn : Nat)
          · obtain rfl : b = true := hp.1 ⟨t0, t1, t2, t3, t4⟩
            have d0 : (p.f == pr) = true := by simpa using t0
            have d1 : (p.t == me) = true := by simpa using t1
            have d2 : decide ((0 : Int) ≤ p.s) = true := decide_eq_true t2
            have d3 : decide ((0 : Int) ≤ p.a) = true := decide_eq_true t3
            have d4 : decide (p.a ≤ (sn : Int)) = true := decide_eq_true t4
            clear hp t0 t1 t2 t3 t4
            go_enter Try.func30, Try.ntmps30
            go_upto_region 1 with fail
            clear hw1
            go_quiet ((go_at_call 26; exact Calls.quiet_of_same (CL.out _)))
            go_wp2
            go_ret
            exact ⟨rfl, below_drewN HB.out _⟩
          · obtain rfl : b = false := Bool.eq_false_iff.2 fun hb => t4 (hp.2 hb).2.2.2.2
            have d0 : (p.f == pr) = true := by simpa using t0
            have d1 : (p.t == me) = true := by simpa using t1
            have d2 : decide ((0 : Int) ≤ p.s) = true := decide_eq_true t2
            have d3 : decide ((0 : Int) ≤ p.a) = true := decide_eq_true t3
            have d4 : decide (p.a ≤ (sn : Int)) = false := decide_eq_false t4
            clear hp t0 t1 t2 t3 t4
            go_enter Try.func30, Try.ntmps30
            go_upto_region 1 with fail
            clear hw1
            go_quiet ((go_at_call 26; exact Calls.quiet_of_same (CL.out _)))
            go_wp2
            go_ret
            exact ⟨rfl, below_drewN HB.out _⟩
        · obtain rfl : b = false := Bool.eq_false_iff.2 fun hb => t3 (hp.2 hb).2.2.2.1
          have d0 : (p.f == pr) = true := by simpa using t0
          have d1 : (p.t == me) = true := by simpa using t1
          have d2 : decide ((0 : Int) ≤ p.s) = true := decide_eq_true t2
          have d3 : decide ((0 : Int) ≤ p.a) = false := decide_eq_false t3
          clear hp t0 t1 t2 t3
          go_enter Try.func30, Try.ntmps30
          go_upto_region 1 with fail
          clear hw1
          go_quiet ((go_at_call 26; exact Calls.quiet_of_same (CL.out _)))
          go_wp2
          go_ret
          exact ⟨rfl, below_drewN HB.out _⟩
      · obtain rfl : b = false := Bool.eq_false_iff.2 fun hb => t2 (hp.2 hb).2.2.1
        have d0 : (p.f == pr) = true := by simpa using t0
        have d1 : (p.t == me) = true := by simpa using t1
        have d2 : decide ((0 : Int) ≤ p.s) = false := decide_eq_false t2
        clear hp t0 t1 t2
        go_enter Try.func30, Try.ntmps30
        go_upto_region 1 with fail
        clear hw1
        go_quiet ((go_at_call 26; exact Calls.quiet_of_same (CL.out _)))
        go_wp2
        go_ret
        exact ⟨rfl, below_drewN HB.out _⟩
    · obtain rfl : b = false := Bool.eq_false_iff.2 fun hb => t1 (hp.2 hb).2.1
      have d0 : (p.f == pr) = true := by simpa using t0
      have d1 : (p.t == me) = false := by simpa using t1
      clear hp t0 t1
      go_enter Try.func30, Try.ntmps30
      go_upto_region 1 with fail
      clear hw1
      go_quiet ((go_at_call 26; exact Calls.quiet_of_same (CL.out _)))
      go_wp2
      go_ret
      exact ⟨rfl, below_drewN HB.out _⟩
  · obtain rfl : b = false := Bool.eq_false_iff.2 fun hb => t0 (hp.2 hb).1
    have d0 : (p.f == pr) = false := by simpa using t0
    clear hp t0
    go_enter Try.func30, Try.ntmps30
    go_upto_region 1 with fail
    clear hw1
    go_quiet ((go_at_call 26; exact Calls.quiet_of_same (CL.out _)))
    go_wp2
    go_ret
    exact ⟨rfl, below_drewN HB.out _⟩
end Go.Proofs.Ytfemdfidfomchaa
