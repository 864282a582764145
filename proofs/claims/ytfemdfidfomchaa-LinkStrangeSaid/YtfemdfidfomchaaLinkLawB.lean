/-
  LinkStrange, walked: packets of others, or for others, or that acknowledge what was never sent, are nothing.
-/
import Derived.Test.YtfemdfidfomchaaLinkLawA
namespace Go.Proofs.Ytfemdfidfomchaa
open Go.RowKit

abbrev ST1 (me peer : Int) : LS := ⟨me, peer, 1, [(LR.light 1 0, 0)], 0, [], 0⟩
abbrev ST2 (me peer : Int) : LS := ⟨me, peer, 2, [(LR.light 1 0, 0), (LR.light 2 0, 0)], 0, [], 0⟩
set_option maxRecDepth 20000 in
set_option maxHeartbeats 16000000 in
theorem linkStrange_any (me peer : Int) (p : PR) (W : World) (hA : ∃ A c, p.r.b = .slice A p.r.l.li.length c) :
    Calls Try.prog 7 #[.int .i64 me, .int .i64 peer, .agg p.cells] W fun e w' => e = .returned (.bool true) ∧ Below W.heap.size W w' := by
  have CA := Lib.hid aliveL
  obtain ⟨A, c, hAc⟩ := hA
  obtain ⟨n, hn⟩ : ∃ n, p.r.l.li.length = n := ⟨_, rfl⟩
  rw [hn] at hAc
  have B1 : Below W.heap.size W (W.alloc (.cells p.cells 53)) := (Below.refl _ _).alloc (Nat.le_refl _) _
  have b1 : (W.alloc (.cells p.cells 53)).heap[W.heap.size]? = some (.cells p.cells 53) := heap_alloc_new W _
  obtain ⟨w1, hw1⟩ : ∃ w1, W.alloc (.cells p.cells 53) = w1 := ⟨_, rfl⟩
  rw [hw1] at B1 b1
  have y0 : w1.cell? ⟨W.heap.size, 0, none⟩ = some (.int .i64 p.f) := bg_cell b1 rfl
  have y1 : w1.cell? ⟨W.heap.size, 1, none⟩ = some (.int .i64 p.t) := bg_cell b1 rfl
  have y2 : w1.cell? ⟨W.heap.size, 2, none⟩ = some (.int .i64 p.s) := bg_cell b1 rfl
  have y3 : w1.cell? ⟨W.heap.size, 3, none⟩ = some (.int .i64 p.a) := bg_cell b1 rfl
  have y22 : w1.cell? ⟨W.heap.size, 22, none⟩ = some (.slice A n c) := by rw [← hAc]; exact bg_cell b1 rfl
  have hsz : (Try.prog.info? 53).map (·.size) = some p.cells.size := bg_infoP
  have HB := Lib.hid B1
  clear B1 hAc hn
  by_cases c0 : 40 < n
  · have d0 : decide ((40 : Int) < (n : Int)) = true := by simp; omega
    go_enter Try.func7, Try.ntmps7
    go_upto_region 1 with fail
    clear hw1
    go_wp2_with (go_at_call 10; (with_reducible refine (CA.out _).mono ?_); rintro e w2 ⟨rfl, h2⟩)
    go_ret
    exact ⟨rfl, acc HB.out h2⟩
  have d0 : decide ((40 : Int) < (n : Int)) = false := by simp; omega
  have hwz : IntKind.i64.wrap (0 : Int) = 0 := by decide
  have CN : Hid (∀ w, Below W.heap.size W w → W.heap.size < w.heap.size → Calls Try.prog 11 #[.int .i64 me, .int .i64 peer] w fun e w' => e = .returned (.pointer (some ⟨w.heap.size, 0, none⟩)) ∧ LX W w' [W.heap.size] w.heap.size (LS.new me peer) ∧ Below w.heap.size w w') := fun w h hl => LX.new h (by simpa using hl) me peer
  have C1 : Hid (∀ w g, LX W w [W.heap.size] g (LS.new me peer) → Calls Try.prog 13 #[.pointer (some ⟨g, 0, none⟩), .agg (ltCells 1 0)] w fun e w' => e = .returned (.agg (lpCells me peer 1 0 1 0)) ∧ LX W w' [W.heap.size] g (ST1 me peer) ∧ KeepsB [W.heap.size] w w') := fun w g h => h.send (new_ok me peer) 1 0
  have C2 : Hid (∀ w g, LX W w [W.heap.size] g (ST1 me peer) → Calls Try.prog 13 #[.pointer (some ⟨g, 0, none⟩), .agg (ltCells 2 0)] w fun e w' => e = .returned (.agg (lpCells me peer 2 0 2 0)) ∧ LX W w' [W.heap.size] g (ST2 me peer) ∧ KeepsB [W.heap.size] w w') := fun w g h => h.send ⟨by simp, by simp, by simp, by simp, by simp, by simp⟩ 2 0
  have C4 : Hid (∀ w g, LX W w [W.heap.size] g (ST2 me peer) → Calls Try.prog 21 #[.pointer (some ⟨g, 0, none⟩)] w fun e w' => e = .returned (.int .i64 2) ∧ w' = w) := fun w g h => h.waits
  have C5 : Hid (∀ w g, LX W w [W.heap.size] g (ST2 me peer) → Calls Try.prog 22 #[.pointer (some ⟨g, 0, none⟩)] w fun e w' => e = .returned (.int .i64 0) ∧ w' = w) := fun w g h => h.came
  by_cases hp : (ST2 me peer).takes p
  · obtain ⟨t0, t1, t2, t3, t4⟩ := hp
    have t4 : p.a ≤ 2 := t4
    have t0 : p.f = peer := t0
    have t1 : p.t = me := t1
    have e0 : ((p.f : Int) == peer) = true := by simpa using t0
    have e1 : ((p.t : Int) == me) = true := by simpa using t1
    have e2 : decide ((0 : Int) ≤ p.s) = true := decide_eq_true t2
    have e3 : decide ((0 : Int) ≤ p.a) = true := decide_eq_true t3
    have e4 : decide (p.a ≤ 2) = true := decide_eq_true t4
    clear CN C1 C2 C4 C5
    go_enter Try.func7, Try.ntmps7
    go_upto_region 1 with fail
    clear hw1
    go_wp2_with (go_at_call 10; (with_reducible refine (CA.out _).mono ?_); rintro e w2 ⟨rfl, h2⟩)
    go_ret
    exact ⟨rfl, acc HB.out h2⟩
  have C3 : Hid (∀ w g, LX W w [W.heap.size] g (ST2 me peer) → Calls Try.prog 17 #[.pointer (some ⟨g, 0, none⟩), .agg p.cells] w fun e w' => e = .returned (.tuple #[.slice none 0 0, .agg (lpCells 0 0 0 0 0 0), .bool false]) ∧ LX W w' [W.heap.size] g (ST2 me peer)) := fun w g h => (h.gotNotR p hp).mono fun e w' ⟨h1, h2, _⟩ => ⟨h1, h2⟩
  by_cases t0 : p.f = peer
  · have e0 : ((p.f : Int) == peer) = true := by simpa using t0
    by_cases t1 : p.t = me
    · have e1 : ((p.t : Int) == me) = true := by simpa using t1
      by_cases t2 : 0 ≤ p.s
      · have e2 : decide ((0 : Int) ≤ p.s) = true := decide_eq_true t2
        by_cases t3 : 0 ≤ p.a
        · have e3 : decide ((0 : Int) ≤ p.a) = true := decide_eq_true t3
          by_cases t4 : p.a ≤ 2
          · have e4 : decide (p.a ≤ 2) = true := decide_eq_true t4
            exact absurd ⟨t0, t1, t2, t3, t4⟩ hp
          · have e4 : decide (p.a ≤ 2) = false := decide_eq_false t4
            clear hp
            go_enter Try.func7, Try.ntmps7
            go_upto_region 1 with fail
            clear hw1
            go_wp2_with (first
              | (go_at_call 10; (with_reducible refine (CA.out _).mono ?_); rintro e w2 ⟨rfl, h2⟩; have x1 := (h2.block W.heap.size (bg_lt b1)).trans b1; have H2 := Lib.hid (acc HB.out h2); clear h2)
              | (go_at_call 11; (with_reducible refine (CN.out _ H2.out (bg_lt x1)).mono ?_); rintro e w3 ⟨rfl, h3, hb3⟩; have x2 := (hb3.block W.heap.size (bg_lt x1)).trans x1; have H3 := Lib.hid h3; clear h3)
              | (go_at_call 13; (with_reducible refine (C1.out _ _ H3.out).mono ?_); rintro e w4 ⟨rfl, h4, k4⟩; have x3 := k4.heap (by simp) x2; have H4 := Lib.hid h4; clear h4 k4)
              | (go_at_call 13; (with_reducible refine (C2.out _ _ H4.out).mono ?_); rintro e w5 ⟨rfl, h5, k5⟩; have x4 := k5.heap (by simp) x3; have H5 := Lib.hid h5; clear h5 k5)
              | (with_reducible (show wpList _ _ _ (⟨some 61, Op.load _ _, _, _, _, _⟩ :: _) _ _); go_must (refine wpList_load_row rfl 53 (.tmp 5) rfl W.heap.size rfl 53 p.cells (0, 0) _ x4 Try.underlying53 rfl hsz ?_))
              | (go_at_call 17; (with_reducible refine (C3.out _ _ H5.out).mono ?_); rintro e w6 ⟨rfl, h6⟩; have H6 := Lib.hid (lx_boxed h6 0 0 0 0 0 0); have z0 := bg_cell (lp_box w6 0 0 0 0 0 0).2 (o := 0) rfl; have z1 := bg_cell (lp_box w6 0 0 0 0 0 0).2 (o := 1) rfl; have z2 := bg_cell (lp_box w6 0 0 0 0 0 0).2 (o := 2) rfl; have z3 := bg_cell (lp_box w6 0 0 0 0 0 0).2 (o := 3) rfl; clear h6)
              | (with_reducible (show wpList _ _ _ (⟨none, Op.store _ (Operand.tmp 9) _, _, _, _, _⟩ :: _) _ _); go_must (refine wpList_store_lp rfl (.tmp 9) (.tmp 64) rfl w6.heap.size 0 0 0 0 0 0 rfl rfl (heap_alloc_new w6 _) ?_))
              | (go_at_call 21; (with_reducible refine (C4.out _ _ H6.out).mono ?_); rintro e w8 ⟨rfl, hw8⟩)
              | (go_at_call 22; (with_reducible refine (C5.out _ _ H6.out).mono ?_); rintro e w9 ⟨rfl, hw9⟩))
            go_ret
            subst hw8
            subst hw9
            exact ⟨rfl, H6.out.base⟩
        · have e3 : decide ((0 : Int) ≤ p.a) = false := decide_eq_false t3
          clear hp
          go_enter Try.func7, Try.ntmps7
          go_upto_region 1 with fail
          clear hw1
          go_wp2_with (first
            | (go_at_call 10; (with_reducible refine (CA.out _).mono ?_); rintro e w2 ⟨rfl, h2⟩; have x1 := (h2.block W.heap.size (bg_lt b1)).trans b1; have H2 := Lib.hid (acc HB.out h2); clear h2)
            | (go_at_call 11; (with_reducible refine (CN.out _ H2.out (bg_lt x1)).mono ?_); rintro e w3 ⟨rfl, h3, hb3⟩; have x2 := (hb3.block W.heap.size (bg_lt x1)).trans x1; have H3 := Lib.hid h3; clear h3)
            | (go_at_call 13; (with_reducible refine (C1.out _ _ H3.out).mono ?_); rintro e w4 ⟨rfl, h4, k4⟩; have x3 := k4.heap (by simp) x2; have H4 := Lib.hid h4; clear h4 k4)
            | (go_at_call 13; (with_reducible refine (C2.out _ _ H4.out).mono ?_); rintro e w5 ⟨rfl, h5, k5⟩; have x4 := k5.heap (by simp) x3; have H5 := Lib.hid h5; clear h5 k5)
            | (with_reducible (show wpList _ _ _ (⟨some 61, Op.load _ _, _, _, _, _⟩ :: _) _ _); go_must (refine wpList_load_row rfl 53 (.tmp 5) rfl W.heap.size rfl 53 p.cells (0, 0) _ x4 Try.underlying53 rfl hsz ?_))
            | (go_at_call 17; (with_reducible refine (C3.out _ _ H5.out).mono ?_); rintro e w6 ⟨rfl, h6⟩; have H6 := Lib.hid (lx_boxed h6 0 0 0 0 0 0); have z0 := bg_cell (lp_box w6 0 0 0 0 0 0).2 (o := 0) rfl; have z1 := bg_cell (lp_box w6 0 0 0 0 0 0).2 (o := 1) rfl; have z2 := bg_cell (lp_box w6 0 0 0 0 0 0).2 (o := 2) rfl; have z3 := bg_cell (lp_box w6 0 0 0 0 0 0).2 (o := 3) rfl; clear h6)
            | (with_reducible (show wpList _ _ _ (⟨none, Op.store _ (Operand.tmp 9) _, _, _, _, _⟩ :: _) _ _); go_must (refine wpList_store_lp rfl (.tmp 9) (.tmp 64) rfl w6.heap.size 0 0 0 0 0 0 rfl rfl (heap_alloc_new w6 _) ?_))
            | (go_at_call 21; (with_reducible refine (C4.out _ _ H6.out).mono ?_); rintro e w8 ⟨rfl, hw8⟩)
            | (go_at_call 22; (with_reducible refine (C5.out _ _ H6.out).mono ?_); rintro e w9 ⟨rfl, hw9⟩))
          go_ret
          subst hw8
          subst hw9
          exact ⟨rfl, H6.out.base⟩
      · have e2 : decide ((0 : Int) ≤ p.s) = false := decide_eq_false t2
        clear hp
        go_enter Try.func7, Try.ntmps7
        go_upto_region 1 with fail
        clear hw1
        go_wp2_with (first
          | (go_at_call 10; (with_reducible refine (CA.out _).mono ?_); rintro e w2 ⟨rfl, h2⟩; have x1 := (h2.block W.heap.size (bg_lt b1)).trans b1; have H2 := Lib.hid (acc HB.out h2); clear h2)
          | (go_at_call 11; (with_reducible refine (CN.out _ H2.out (bg_lt x1)).mono ?_); rintro e w3 ⟨rfl, h3, hb3⟩; have x2 := (hb3.block W.heap.size (bg_lt x1)).trans x1; have H3 := Lib.hid h3; clear h3)
          | (go_at_call 13; (with_reducible refine (C1.out _ _ H3.out).mono ?_); rintro e w4 ⟨rfl, h4, k4⟩; have x3 := k4.heap (by simp) x2; have H4 := Lib.hid h4; clear h4 k4)
          | (go_at_call 13; (with_reducible refine (C2.out _ _ H4.out).mono ?_); rintro e w5 ⟨rfl, h5, k5⟩; have x4 := k5.heap (by simp) x3; have H5 := Lib.hid h5; clear h5 k5)
          | (with_reducible (show wpList _ _ _ (⟨some 61, Op.load _ _, _, _, _, _⟩ :: _) _ _); go_must (refine wpList_load_row rfl 53 (.tmp 5) rfl W.heap.size rfl 53 p.cells (0, 0) _ x4 Try.underlying53 rfl hsz ?_))
          | (go_at_call 17; (with_reducible refine (C3.out _ _ H5.out).mono ?_); rintro e w6 ⟨rfl, h6⟩; have H6 := Lib.hid (lx_boxed h6 0 0 0 0 0 0); have z0 := bg_cell (lp_box w6 0 0 0 0 0 0).2 (o := 0) rfl; have z1 := bg_cell (lp_box w6 0 0 0 0 0 0).2 (o := 1) rfl; have z2 := bg_cell (lp_box w6 0 0 0 0 0 0).2 (o := 2) rfl; have z3 := bg_cell (lp_box w6 0 0 0 0 0 0).2 (o := 3) rfl; clear h6)
          | (with_reducible (show wpList _ _ _ (⟨none, Op.store _ (Operand.tmp 9) _, _, _, _, _⟩ :: _) _ _); go_must (refine wpList_store_lp rfl (.tmp 9) (.tmp 64) rfl w6.heap.size 0 0 0 0 0 0 rfl rfl (heap_alloc_new w6 _) ?_))
          | (go_at_call 21; (with_reducible refine (C4.out _ _ H6.out).mono ?_); rintro e w8 ⟨rfl, hw8⟩)
          | (go_at_call 22; (with_reducible refine (C5.out _ _ H6.out).mono ?_); rintro e w9 ⟨rfl, hw9⟩))
        go_ret
        subst hw8
        subst hw9
        exact ⟨rfl, H6.out.base⟩
    · have e1 : ((p.t : Int) == me) = false := by simpa using t1
      clear hp
      go_enter Try.func7, Try.ntmps7
      go_upto_region 1 with fail
      clear hw1
      go_wp2_with (first
        | (go_at_call 10; (with_reducible refine (CA.out _).mono ?_); rintro e w2 ⟨rfl, h2⟩; have x1 := (h2.block W.heap.size (bg_lt b1)).trans b1; have H2 := Lib.hid (acc HB.out h2); clear h2)
        | (go_at_call 11; (with_reducible refine (CN.out _ H2.out (bg_lt x1)).mono ?_); rintro e w3 ⟨rfl, h3, hb3⟩; have x2 := (hb3.block W.heap.size (bg_lt x1)).trans x1; have H3 := Lib.hid h3; clear h3)
        | (go_at_call 13; (with_reducible refine (C1.out _ _ H3.out).mono ?_); rintro e w4 ⟨rfl, h4, k4⟩; have x3 := k4.heap (by simp) x2; have H4 := Lib.hid h4; clear h4 k4)
        | (go_at_call 13; (with_reducible refine (C2.out _ _ H4.out).mono ?_); rintro e w5 ⟨rfl, h5, k5⟩; have x4 := k5.heap (by simp) x3; have H5 := Lib.hid h5; clear h5 k5)
        | (with_reducible (show wpList _ _ _ (⟨some 61, Op.load _ _, _, _, _, _⟩ :: _) _ _); go_must (refine wpList_load_row rfl 53 (.tmp 5) rfl W.heap.size rfl 53 p.cells (0, 0) _ x4 Try.underlying53 rfl hsz ?_))
        | (go_at_call 17; (with_reducible refine (C3.out _ _ H5.out).mono ?_); rintro e w6 ⟨rfl, h6⟩; have H6 := Lib.hid (lx_boxed h6 0 0 0 0 0 0); have z0 := bg_cell (lp_box w6 0 0 0 0 0 0).2 (o := 0) rfl; have z1 := bg_cell (lp_box w6 0 0 0 0 0 0).2 (o := 1) rfl; have z2 := bg_cell (lp_box w6 0 0 0 0 0 0).2 (o := 2) rfl; have z3 := bg_cell (lp_box w6 0 0 0 0 0 0).2 (o := 3) rfl; clear h6)
        | (with_reducible (show wpList _ _ _ (⟨none, Op.store _ (Operand.tmp 9) _, _, _, _, _⟩ :: _) _ _); go_must (refine wpList_store_lp rfl (.tmp 9) (.tmp 64) rfl w6.heap.size 0 0 0 0 0 0 rfl rfl (heap_alloc_new w6 _) ?_))
        | (go_at_call 21; (with_reducible refine (C4.out _ _ H6.out).mono ?_); rintro e w8 ⟨rfl, hw8⟩)
        | (go_at_call 22; (with_reducible refine (C5.out _ _ H6.out).mono ?_); rintro e w9 ⟨rfl, hw9⟩))
      go_ret
      subst hw8
      subst hw9
      exact ⟨rfl, H6.out.base⟩
  · have e0 : ((p.f : Int) == peer) = false := by simpa using t0
    clear hp
    go_enter Try.func7, Try.ntmps7
    go_upto_region 1 with fail
    clear hw1
    go_wp2_with (first
      | (go_at_call 10; (with_reducible refine (CA.out _).mono ?_); rintro e w2 ⟨rfl, h2⟩; have x1 := (h2.block W.heap.size (bg_lt b1)).trans b1; have H2 := Lib.hid (acc HB.out h2); clear h2)
      | (go_at_call 11; (with_reducible refine (CN.out _ H2.out (bg_lt x1)).mono ?_); rintro e w3 ⟨rfl, h3, hb3⟩; have x2 := (hb3.block W.heap.size (bg_lt x1)).trans x1; have H3 := Lib.hid h3; clear h3)
      | (go_at_call 13; (with_reducible refine (C1.out _ _ H3.out).mono ?_); rintro e w4 ⟨rfl, h4, k4⟩; have x3 := k4.heap (by simp) x2; have H4 := Lib.hid h4; clear h4 k4)
      | (go_at_call 13; (with_reducible refine (C2.out _ _ H4.out).mono ?_); rintro e w5 ⟨rfl, h5, k5⟩; have x4 := k5.heap (by simp) x3; have H5 := Lib.hid h5; clear h5 k5)
      | (with_reducible (show wpList _ _ _ (⟨some 61, Op.load _ _, _, _, _, _⟩ :: _) _ _); go_must (refine wpList_load_row rfl 53 (.tmp 5) rfl W.heap.size rfl 53 p.cells (0, 0) _ x4 Try.underlying53 rfl hsz ?_))
      | (go_at_call 17; (with_reducible refine (C3.out _ _ H5.out).mono ?_); rintro e w6 ⟨rfl, h6⟩; have H6 := Lib.hid (lx_boxed h6 0 0 0 0 0 0); have z0 := bg_cell (lp_box w6 0 0 0 0 0 0).2 (o := 0) rfl; have z1 := bg_cell (lp_box w6 0 0 0 0 0 0).2 (o := 1) rfl; have z2 := bg_cell (lp_box w6 0 0 0 0 0 0).2 (o := 2) rfl; have z3 := bg_cell (lp_box w6 0 0 0 0 0 0).2 (o := 3) rfl; clear h6)
      | (with_reducible (show wpList _ _ _ (⟨none, Op.store _ (Operand.tmp 9) _, _, _, _, _⟩ :: _) _ _); go_must (refine wpList_store_lp rfl (.tmp 9) (.tmp 64) rfl w6.heap.size 0 0 0 0 0 0 rfl rfl (heap_alloc_new w6 _) ?_))
      | (go_at_call 21; (with_reducible refine (C4.out _ _ H6.out).mono ?_); rintro e w8 ⟨rfl, hw8⟩)
      | (go_at_call 22; (with_reducible refine (C5.out _ _ H6.out).mono ?_); rintro e w9 ⟨rfl, hw9⟩))
    go_ret
    subst hw8
    subst hw9
    exact ⟨rfl, H6.out.base⟩
end Go.Proofs.Ytfemdfidfomchaa
