/-
  The document's Letter, walked: may a letter be?
-/
import Derived.Test.YtbnmddopgbhapaaGreatLetRefB
namespace Go.Proofs.YtbnmddopgbhapaaGreat
open Go.RowKit

theorem twoA (W : World) (o o1 o2 : Obj) : (((W.alloc o).alloc o1).alloc o2).drew.heap[W.heap.size + 1]? = some o1 ∧ (((W.alloc o).alloc o1).alloc o2).drew.heap[W.heap.size + 1 + 1]? = some o2 ∧ Below W.heap.size W (((W.alloc o).alloc o1).alloc o2).drew := by
  have z1 : (W.alloc o).heap.size = W.heap.size + 1 := by simp
  have z2 : ((W.alloc o).alloc o1).heap.size = W.heap.size + 1 + 1 := by simp
  have h1 := heap_alloc_new (W.alloc o) o1
  have h2 := heap_alloc_new ((W.alloc o).alloc o1) o2
  rw [z1] at h1
  rw [z2] at h2
  exact ⟨(Lib.alloc_old _ _ _ (by omega)).trans h1, h2, ((((Below.refl _ _).alloc (Nat.le_refl _) _).alloc (by omega) _).alloc (by omega) _).drew⟩
theorem keepAl {wb W : World} {A : World → Prop} (HS : ∀ w', Below wb.heap.size wb w' → Below wb.heap.size wb w' ∧ A w') (h : Below wb.heap.size wb W ∧ A W) (o : Obj) : Below wb.heap.size wb (W.alloc o) ∧ A (W.alloc o) := HS _ (h.1.alloc h.1.size o)
set_option maxRecDepth 20000 in
set_option maxHeartbeats 8000000 in
theorem dletter_any (l : LV) (S1 S2 : Value) (W : World) (hF : l.Fine) (h1 : SlAt W S1 l.ti) (h2 : SlAt W S2 l.li) :
    Calls Tryz.prog 8 #[.agg (l.cells S1 S2)] W fun e w' => e = .returned (.bool (mayB l)) ∧ Below W.heap.size W w' := by
  have z1 := h1
  have z2 := h2
  obtain ⟨A1, k1, rfl, x1, x2, x3⟩ := h1
  obtain ⟨A2, k2, rfl, x4, x5, x6⟩ := h2
  obtain ⟨n1, hn1⟩ : ∃ n1, l.ti.length = n1 := ⟨_, rfl⟩
  obtain ⟨n2, hn2⟩ : ∃ n2, l.li.length = n2 := ⟨_, rfl⟩
  rw [hn1] at z1
  rw [hn2] at z2
  rw [hn1, hn2]
  obtain ⟨a1, hh_a1⟩ : ∃ q, decide (1 ≤ l.k) = q := ⟨_, rfl⟩
  have H_a1 := Lib.hid hh_a1
  obtain ⟨a2, hh_a2⟩ : ∃ q, decide (l.k ≤ 16) = q := ⟨_, rfl⟩
  have H_a2 := Lib.hid hh_a2
  obtain ⟨a3, hh_a3⟩ : ∃ q, byteB l.f = q := ⟨_, rfl⟩
  have C_a3 : Hid (∀ w, Calls Tryz.prog 21 #[.int .i64 l.f] w fun e w' => e = .returned (.bool a3) ∧ w = w') := fun w => hh_a3 ▸ byteful_any l.f w
  have H_a3 := Lib.hid hh_a3
  obtain ⟨a4, hh_a4⟩ : ∃ q, byteB l.t = q := ⟨_, rfl⟩
  have C_a4 : Hid (∀ w, Calls Tryz.prog 21 #[.int .i64 l.t] w fun e w' => e = .returned (.bool a4) ∧ w = w') := fun w => hh_a4 ▸ byteful_any l.t w
  have H_a4 := Lib.hid hh_a4
  obtain ⟨a5, hh_a5⟩ : ∃ q, byteB l.nd = q := ⟨_, rfl⟩
  have C_a5 : Hid (∀ w, Calls Tryz.prog 21 #[.int .i64 l.nd] w fun e w' => e = .returned (.bool a5) ∧ w = w') := fun w => hh_a5 ▸ byteful_any l.nd w
  have H_a5 := Lib.hid hh_a5
  obtain ⟨a6, hh_a6⟩ : ∃ q, numeB l.i = q := ⟨_, rfl⟩
  have C_a6 : Hid (∀ w, Calls Tryz.prog 22 #[.int .i64 l.i] w fun e w' => e = .returned (.bool a6) ∧ w = w') := fun w => hh_a6 ▸ numeral_any l.i w
  have H_a6 := Lib.hid hh_a6
  obtain ⟨a7, hh_a7⟩ : ∃ q, numeB l.ep = q := ⟨_, rfl⟩
  have C_a7 : Hid (∀ w, Calls Tryz.prog 22 #[.int .i64 l.ep] w fun e w' => e = .returned (.bool a7) ∧ w = w') := fun w => hh_a7 ▸ numeral_any l.ep w
  have H_a7 := Lib.hid hh_a7
  obtain ⟨a8, hh_a8⟩ : ∃ q, numeB l.n = q := ⟨_, rfl⟩
  have C_a8 : Hid (∀ w, Calls Tryz.prog 22 #[.int .i64 l.n] w fun e w' => e = .returned (.bool a8) ∧ w = w') := fun w => hh_a8 ▸ numeral_any l.n w
  have H_a8 := Lib.hid hh_a8
  obtain ⟨a9, hh_a9⟩ : ∃ q, linesB l.li = q := ⟨_, rfl⟩
  have C_a9 : Hid (∀ w, Below W.heap.size W w → Calls Tryz.prog 23 #[.slice A2 n2 k2] w fun e w' => e = .returned (.bool a9) ∧ w = w') := fun w hw => hh_a9 ▸ lines_any l.li _ w (z2.below hw) hF.liB
  have H_a9 := Lib.hid hh_a9
  obtain ⟨b1, hh_b1⟩ : ∃ q, byteB l.op = q := ⟨_, rfl⟩
  have C_b1 : Hid (∀ w, Calls Tryz.prog 21 #[.int .i64 l.op] w fun e w' => e = .returned (.bool b1) ∧ w = w') := fun w => hh_b1 ▸ byteful_any l.op w
  have H_b1 := Lib.hid hh_b1
  obtain ⟨b2, hh_b2⟩ : ∃ q, okText l.key = q := ⟨_, rfl⟩
  have H_b2 := Lib.hid hh_b2
  obtain ⟨b3, hh_b3⟩ : ∃ q, okText l.val = q := ⟨_, rfl⟩
  have H_b3 := Lib.hid hh_b3
  obtain ⟨b4, hh_b4⟩ : ∃ q, okText l.kto = q := ⟨_, rfl⟩
  have H_b4 := Lib.hid hh_b4
  obtain ⟨b5, hh_b5⟩ : ∃ q, numeB l.most = q := ⟨_, rfl⟩
  have C_b5 : Hid (∀ w, Calls Tryz.prog 22 #[.int .i64 l.most] w fun e w' => e = .returned (.bool b5) ∧ w = w') := fun w => hh_b5 ▸ numeral_any l.most w
  have H_b5 := Lib.hid hh_b5
  obtain ⟨c1, hh_c1⟩ : ∃ q, decide (0 ≤ l.er) = q := ⟨_, rfl⟩
  have H_c1 := Lib.hid hh_c1
  obtain ⟨c2, hh_c2⟩ : ∃ q, decide (l.er ≤ 255) = q := ⟨_, rfl⟩
  have H_c2 := Lib.hid hh_c2
  obtain ⟨c3, hh_c3⟩ : ∃ q, okText l.tv = q := ⟨_, rfl⟩
  have H_c3 := Lib.hid hh_c3
  obtain ⟨c4, hh_c4⟩ : ∃ q, okText l.nx = q := ⟨_, rfl⟩
  have H_c4 := Lib.hid hh_c4
  obtain ⟨c5, hh_c5⟩ : ∃ q, linesB l.ti = q := ⟨_, rfl⟩
  have C_c5 : Hid (∀ w, Below W.heap.size W w → Calls Tryz.prog 23 #[.slice A1 n1 k1] w fun e w' => e = .returned (.bool c5) ∧ w = w') := fun w hw => hh_c5 ▸ lines_any l.ti _ w (z1.below hw) hF.tiB
  have H_c5 := Lib.hid hh_c5
  obtain ⟨c6, hh_c6⟩ : ∃ q, byteB l.tn = q := ⟨_, rfl⟩
  have C_c6 : Hid (∀ w, Calls Tryz.prog 21 #[.int .i64 l.tn] w fun e w' => e = .returned (.bool c6) ∧ w = w') := fun w => hh_c6 ▸ byteful_any l.tn w
  have H_c6 := Lib.hid hh_c6
  have HE : Hid (mayB l = (a1 && (a2 && (a3 && (a4 && (a5 && (a6 && (a7 && (a8 && (a9 && (b1 && (b2 && (b3 && (b4 && (b5 && (c1 && (c2 && (c3 && (c4 && (c5 && (c6))))))))))))))))))))) := by
    show _ = _
    unfold mayB
    rw [hh_a1, hh_a2, hh_a3, hh_a4, hh_a5, hh_a6, hh_a7, hh_a8, hh_a9, hh_b1, hh_b2, hh_b3, hh_b4, hh_b5, hh_c1, hh_c2, hh_c3, hh_c4, hh_c5, hh_c6]
  have HB0 : Hid (Below W.heap.size W (W.alloc (.cells (l.cells (.slice A1 n1 k1) (.slice A2 n2 k2)) 32))) := (Below.refl _ _).alloc (Nat.le_refl _) _
  have hrow : (W.alloc (.cells (l.cells (.slice A1 n1 k1) (.slice A2 n2 k2)) 32)).heap[W.heap.size]? = some (.cells (l.cells (.slice A1 n1 k1) (.slice A2 n2 k2)) 32) := heap_alloc_new W _
  have HT : Hid (l.key.size ≤ 9223372036854775807 ∧ l.val.size ≤ 9223372036854775807 ∧ l.kto.size ≤ 9223372036854775807 ∧ l.tv.size ≤ 9223372036854775807 ∧ l.nx.size ≤ 9223372036854775807) := ⟨hF.keyB, hF.valB, hF.ktoB, hF.tvB, hF.nxB⟩
  have HROW := Lib.hid hrow
  clear hh_a1 hh_a2 hh_a3 hh_a4 hh_a5 hh_a6 hh_a7 hh_a8 hh_a9 hh_b1 hh_b2 hh_b3 hh_b4 hh_b5 hh_c1 hh_c2 hh_c3 hh_c4 hh_c5 hh_c6 hrow z1 z2 hn1 hn2 x1 x2 x3 x4 x5 x6 hF
  go_enter Tryz.func8, Tryz.ntmps8
  cases a1 with
  | false =>
    have d_a1 : decide (l.k < 1) = true := by have h := H_a1.out; simp only [decide_eq_false_iff_not] at h; simp only [decide_eq_true_iff]; omega
    clear H_a1 H_a2 H_a3 H_a4 H_a5 H_a6 H_a7 H_a8 H_a9 H_b1 H_b2 H_b3 H_b4 H_b5 H_c1 H_c2 H_c3 H_c4 H_c5 H_c6
    go_wp2_with (first | (go_at_call 28; fail))
    go_ret
    exact ⟨by rw [HE.out]; rfl, HB0.out⟩
  | true =>
    have d_a1 : decide (l.k < 1) = false := by have h := H_a1.out; simp only [decide_eq_true_iff] at h; simp only [decide_eq_false_iff_not]; omega
    cases a2 with
    | false =>
      have d_a2 : decide (16 < l.k) = true := by have h := H_a2.out; simp only [decide_eq_false_iff_not] at h; simp only [decide_eq_true_iff]; omega
      clear H_a1 H_a2 H_a3 H_a4 H_a5 H_a6 H_a7 H_a8 H_a9 H_b1 H_b2 H_b3 H_b4 H_b5 H_c1 H_c2 H_c3 H_c4 H_c5 H_c6
      go_wp2_with (first | (go_at_call 28; fail))
      go_ret
      exact ⟨by rw [HE.out]; rfl, HB0.out⟩
    | true =>
      have d_a2 : decide (16 < l.k) = false := by have h := H_a2.out; simp only [decide_eq_true_iff] at h; simp only [decide_eq_false_iff_not]; omega
      cases a3 with
      | false =>
        clear H_a1 H_a2 H_a3 H_a4 H_a5 H_a6 H_a7 H_a8 H_a9 H_b1 H_b2 H_b3 H_b4 H_b5 H_c1 H_c2 H_c3 H_c4 H_c5 H_c6
        go_wp2_with (first | (go_at_call 21; ((with_reducible refine (C_a3.out _).mono ?_); rintro e w9 ⟨rfl, rfl⟩)) | (go_at_call 28; fail))
        go_ret
        exact ⟨by rw [HE.out]; rfl, HB0.out⟩
      | true =>
        cases a4 with
        | false =>
          clear H_a1 H_a2 H_a3 H_a4 H_a5 H_a6 H_a7 H_a8 H_a9 H_b1 H_b2 H_b3 H_b4 H_b5 H_c1 H_c2 H_c3 H_c4 H_c5 H_c6
          go_wp2_with (first | (go_at_call 21; ((with_reducible refine (C_a3.out _).mono ?_); rintro e w9 ⟨rfl, rfl⟩)) | (go_at_call 21; ((with_reducible refine (C_a4.out _).mono ?_); rintro e w9 ⟨rfl, rfl⟩)) | (go_at_call 28; fail))
          go_ret
          exact ⟨by rw [HE.out]; rfl, HB0.out⟩
        | true =>
          cases a5 with
          | false =>
            clear H_a1 H_a2 H_a3 H_a4 H_a5 H_a6 H_a7 H_a8 H_a9 H_b1 H_b2 H_b3 H_b4 H_b5 H_c1 H_c2 H_c3 H_c4 H_c5 H_c6
            go_wp2_with (first | (go_at_call 21; ((with_reducible refine (C_a3.out _).mono ?_); rintro e w9 ⟨rfl, rfl⟩)) | (go_at_call 21; ((with_reducible refine (C_a4.out _).mono ?_); rintro e w9 ⟨rfl, rfl⟩)) | (go_at_call 21; ((with_reducible refine (C_a5.out _).mono ?_); rintro e w9 ⟨rfl, rfl⟩)) | (go_at_call 28; fail))
            go_ret
            exact ⟨by rw [HE.out]; rfl, HB0.out⟩
          | true =>
            cases a6 with
            | false =>
              clear H_a1 H_a2 H_a3 H_a4 H_a5 H_a6 H_a7 H_a8 H_a9 H_b1 H_b2 H_b3 H_b4 H_b5 H_c1 H_c2 H_c3 H_c4 H_c5 H_c6
              go_wp2_with (first | (go_at_call 21; ((with_reducible refine (C_a3.out _).mono ?_); rintro e w9 ⟨rfl, rfl⟩)) | (go_at_call 21; ((with_reducible refine (C_a4.out _).mono ?_); rintro e w9 ⟨rfl, rfl⟩)) | (go_at_call 21; ((with_reducible refine (C_a5.out _).mono ?_); rintro e w9 ⟨rfl, rfl⟩)) | (go_at_call 22; ((with_reducible refine (C_a6.out _).mono ?_); rintro e w9 ⟨rfl, rfl⟩)) | (go_at_call 28; fail))
              go_ret
              exact ⟨by rw [HE.out]; rfl, HB0.out⟩
            | true =>
              cases a7 with
              | false =>
                clear H_a1 H_a2 H_a3 H_a4 H_a5 H_a6 H_a7 H_a8 H_a9 H_b1 H_b2 H_b3 H_b4 H_b5 H_c1 H_c2 H_c3 H_c4 H_c5 H_c6
                go_wp2_with (first | (go_at_call 21; ((with_reducible refine (C_a3.out _).mono ?_); rintro e w9 ⟨rfl, rfl⟩)) | (go_at_call 21; ((with_reducible refine (C_a4.out _).mono ?_); rintro e w9 ⟨rfl, rfl⟩)) | (go_at_call 21; ((with_reducible refine (C_a5.out _).mono ?_); rintro e w9 ⟨rfl, rfl⟩)) | (go_at_call 22; ((with_reducible refine (C_a6.out _).mono ?_); rintro e w9 ⟨rfl, rfl⟩)) | (go_at_call 22; ((with_reducible refine (C_a7.out _).mono ?_); rintro e w9 ⟨rfl, rfl⟩)) | (go_at_call 28; fail))
                go_ret
                exact ⟨by rw [HE.out]; rfl, HB0.out⟩
              | true =>
                cases a8 with
                | false =>
                  clear H_a1 H_a2 H_a3 H_a4 H_a5 H_a6 H_a7 H_a8 H_a9 H_b1 H_b2 H_b3 H_b4 H_b5 H_c1 H_c2 H_c3 H_c4 H_c5 H_c6
                  go_wp2_with (first | (go_at_call 21; ((with_reducible refine (C_a3.out _).mono ?_); rintro e w9 ⟨rfl, rfl⟩)) | (go_at_call 21; ((with_reducible refine (C_a4.out _).mono ?_); rintro e w9 ⟨rfl, rfl⟩)) | (go_at_call 21; ((with_reducible refine (C_a5.out _).mono ?_); rintro e w9 ⟨rfl, rfl⟩)) | (go_at_call 22; ((with_reducible refine (C_a6.out _).mono ?_); rintro e w9 ⟨rfl, rfl⟩)) | (go_at_call 22; ((with_reducible refine (C_a7.out _).mono ?_); rintro e w9 ⟨rfl, rfl⟩)) | (go_at_call 22; ((with_reducible refine (C_a8.out _).mono ?_); rintro e w9 ⟨rfl, rfl⟩)) | (go_at_call 28; fail))
                  go_ret
                  exact ⟨by rw [HE.out]; rfl, HB0.out⟩
                | true =>
                  cases a9 with
                  | false =>
                    clear H_a1 H_a2 H_a3 H_a4 H_a5 H_a6 H_a7 H_a8 H_a9 H_b1 H_b2 H_b3 H_b4 H_b5 H_c1 H_c2 H_c3 H_c4 H_c5 H_c6
                    go_wp2_with (first | (go_at_call 21; ((with_reducible refine (C_a3.out _).mono ?_); rintro e w9 ⟨rfl, rfl⟩)) | (go_at_call 21; ((with_reducible refine (C_a4.out _).mono ?_); rintro e w9 ⟨rfl, rfl⟩)) | (go_at_call 21; ((with_reducible refine (C_a5.out _).mono ?_); rintro e w9 ⟨rfl, rfl⟩)) | (go_at_call 22; ((with_reducible refine (C_a6.out _).mono ?_); rintro e w9 ⟨rfl, rfl⟩)) | (go_at_call 22; ((with_reducible refine (C_a7.out _).mono ?_); rintro e w9 ⟨rfl, rfl⟩)) | (go_at_call 22; ((with_reducible refine (C_a8.out _).mono ?_); rintro e w9 ⟨rfl, rfl⟩)) | (go_at_call 23; ((with_reducible refine (C_a9.out _ (by first | exact HB0.out | exact HBC.out)).mono ?_); rintro e w9 ⟨rfl, rfl⟩)) | (go_at_call 28; fail))
                    go_ret
                    exact ⟨by rw [HE.out]; rfl, HB0.out⟩
                  | true =>
                    clear H_a1 H_a2 H_a3 H_a4 H_a5 H_a6 H_a7 H_a8 H_a9
                    go_upto_region 3 with (first | (go_at_call 21; ((with_reducible refine (C_a3.out _).mono ?_); rintro e w9 ⟨rfl, rfl⟩)) | (go_at_call 21; ((with_reducible refine (C_a4.out _).mono ?_); rintro e w9 ⟨rfl, rfl⟩)) | (go_at_call 21; ((with_reducible refine (C_a5.out _).mono ?_); rintro e w9 ⟨rfl, rfl⟩)) | (go_at_call 22; ((with_reducible refine (C_a6.out _).mono ?_); rintro e w9 ⟨rfl, rfl⟩)) | (go_at_call 22; ((with_reducible refine (C_a7.out _).mono ?_); rintro e w9 ⟨rfl, rfl⟩)) | (go_at_call 22; ((with_reducible refine (C_a8.out _).mono ?_); rintro e w9 ⟨rfl, rfl⟩)) | (go_at_call 23; ((with_reducible refine (C_a9.out _ (by first | exact HB0.out | exact HBC.out)).mono ?_); rintro e w9 ⟨rfl, rfl⟩)) | (go_at_call 28; fail))
                    skip
                    go_cut [3, 4] (fun s3 s4 wx => ∃ c d, s3 = .pointer (some ⟨c, 0, none⟩) ∧ s4 = .pointer (some ⟨d, 0, none⟩) ∧ Hid (wx.heap[c]? = some (.cells #[.int .i64 l.op, .string l.key, .string l.val, .string l.kto, .int .i64 l.most] 23) ∧ wx.heap[d]? = some (.cells #[.int .i64 l.er, .string l.tv, .slice A1 n1 k1, .bool l.more, .string l.nx, .int .i64 l.tn] 27) ∧ Below W.heap.size W wx))
                    case first =>
                      have hrow := HROW.out
                      have HSS : Hid (∀ w', Below (W.alloc (.cells (l.cells (.slice A1 n1 k1) (.slice A2 n2 k2)) 32)).heap.size (W.alloc (.cells (l.cells (.slice A1 n1 k1) (.slice A2 n2 k2)) 32)) w' → Below (W.alloc (.cells (l.cells (.slice A1 n1 k1) (.slice A2 n2 k2)) 32)).heap.size (W.alloc (.cells (l.cells (.slice A1 n1 k1) (.slice A2 n2 k2)) 32)) w' ∧ (w'.cell? ⟨W.heap.size, 4, none⟩ = some (.int .i64 l.op) ∧ w'.cell? ⟨W.heap.size, 5, none⟩ = some (.string l.key) ∧ w'.cell? ⟨W.heap.size, 6, none⟩ = some (.string l.val) ∧ w'.cell? ⟨W.heap.size, 7, none⟩ = some (.string l.kto) ∧ w'.cell? ⟨W.heap.size, 8, none⟩ = some (.int .i64 l.most) ∧ w'.cell? ⟨W.heap.size, 9, none⟩ = some (.int .i64 l.er) ∧ w'.cell? ⟨W.heap.size, 10, none⟩ = some (.string l.tv) ∧ w'.cell? ⟨W.heap.size, 11, none⟩ = some (.slice A1 n1 k1) ∧ w'.cell? ⟨W.heap.size, 12, none⟩ = some (.bool l.more) ∧ w'.cell? ⟨W.heap.size, 13, none⟩ = some (.string l.nx) ∧ w'.cell? ⟨W.heap.size, 14, none⟩ = some (.int .i64 l.tn))) := fun w' h => by
                        have hr := (h.block _ (lt_of_heap hrow)).trans hrow
                        exact ⟨h, cell_at hr rfl, cell_at hr rfl, cell_at hr rfl, cell_at hr rfl, cell_at hr rfl, cell_at hr rfl, cell_at hr rfl, cell_at hr rfl, cell_at hr rfl, cell_at hr rfl, cell_at hr rfl⟩
                      clear hrow
                      go_region_held3 (fun w' => Below (W.alloc (.cells (l.cells (.slice A1 n1 k1) (.slice A2 n2 k2)) 32)).heap.size (W.alloc (.cells (l.cells (.slice A1 n1 k1) (.slice A2 n2 k2)) 32)) w' ∧ (w'.cell? ⟨W.heap.size, 4, none⟩ = some (.int .i64 l.op) ∧ w'.cell? ⟨W.heap.size, 5, none⟩ = some (.string l.key) ∧ w'.cell? ⟨W.heap.size, 6, none⟩ = some (.string l.val) ∧ w'.cell? ⟨W.heap.size, 7, none⟩ = some (.string l.kto) ∧ w'.cell? ⟨W.heap.size, 8, none⟩ = some (.int .i64 l.most) ∧ w'.cell? ⟨W.heap.size, 9, none⟩ = some (.int .i64 l.er) ∧ w'.cell? ⟨W.heap.size, 10, none⟩ = some (.string l.tv) ∧ w'.cell? ⟨W.heap.size, 11, none⟩ = some (.slice A1 n1 k1) ∧ w'.cell? ⟨W.heap.size, 12, none⟩ = some (.bool l.more) ∧ w'.cell? ⟨W.heap.size, 13, none⟩ = some (.string l.nx) ∧ w'.cell? ⟨W.heap.size, 14, none⟩ = some (.int .i64 l.tn))) ((first | assumption | exact HSS.out _ ((Below.refl _ _).drew) | exact keepAl HSS.out (by assumption) _ | exact HSS.out _ (((Below.refl _ _).alloc (Nat.le_refl _) _).drew) | exact HSS.out _ ((((Below.refl _ _).alloc (Nat.le_refl _) _).alloc (by simp) _).drew)))
                        (fail)
                      all_goals
                        go_wp2_with fail
                        go_meet
                        first
                          | exact ⟨_, _, rfl, rfl, twoA W _ _ _⟩
                          | exact ⟨_, _, rfl, rfl, (twoA W _ _ _).2.1, (twoA W _ _ _).1, (twoA W _ _ _).2.2⟩
                    case rest =>
                      obtain ⟨c, d, rfl, rfl, HK⟩ := hcut
                      obtain ⟨wb, rfl⟩ : ∃ wb : World, wb = wc := ⟨_, rfl⟩
                      obtain ⟨r1, r2, hbw⟩ := HK.out
                      have HBC := Lib.hid hbw
                      have y0 := cell_at (o := 0) r1 rfl
                      have y1 := cell_at (o := 1) r1 rfl
                      have y2 := cell_at (o := 2) r1 rfl
                      have y3 := cell_at (o := 3) r1 rfl
                      have y4 := cell_at (o := 4) r1 rfl
                      have u0 := cell_at (o := 0) r2 rfl
                      have u1 := cell_at (o := 1) r2 rfl
                      have u2 := cell_at (o := 2) r2 rfl
                      have u3 := cell_at (o := 3) r2 rfl
                      have u4 := cell_at (o := 4) r2 rfl
                      have u5 := cell_at (o := 5) r2 rfl
                      obtain ⟨t1, t2, t3, t4, t5⟩ := HT.out
                      clear HK r1 r2 hbw HB0 HROW
                      cases b1 with
                      | false =>
                        clear H_b1 H_b2 H_b3 H_b4 H_b5 H_c1 H_c2 H_c3 H_c4 H_c5 H_c6
                        go_wp2_with (first | (go_at_call 21; ((with_reducible refine (C_b1.out _).mono ?_); rintro e w9 ⟨rfl, rfl⟩)) | (go_at_call 28; fail))
                        go_ret
                        exact ⟨by rw [HE.out]; rfl, HBC.out⟩
                      | true =>
                        cases b2 with
                        | false =>
                          have d_b2 : decide ((255 : Int) < (l.key.size : Int)) = true := by have h := H_b2.out; unfold okText at h; simp only [decide_eq_false_iff_not] at h; simp only [decide_eq_true_iff]; omega
                          clear H_b1 H_b2 H_b3 H_b4 H_b5 H_c1 H_c2 H_c3 H_c4 H_c5 H_c6
                          go_wp2_with (first | (go_at_call 21; ((with_reducible refine (C_b1.out _).mono ?_); rintro e w9 ⟨rfl, rfl⟩)) | (go_at_call 28; fail))
                          go_ret
                          exact ⟨by rw [HE.out]; rfl, HBC.out⟩
                        | true =>
                          have d_b2 : decide ((255 : Int) < (l.key.size : Int)) = false := by have h := H_b2.out; unfold okText at h; simp only [decide_eq_true_iff] at h; simp only [decide_eq_false_iff_not]; omega
                          cases b3 with
                          | false =>
                            have d_b3 : decide ((255 : Int) < (l.val.size : Int)) = true := by have h := H_b3.out; unfold okText at h; simp only [decide_eq_false_iff_not] at h; simp only [decide_eq_true_iff]; omega
                            clear H_b1 H_b2 H_b3 H_b4 H_b5 H_c1 H_c2 H_c3 H_c4 H_c5 H_c6
                            go_wp2_with (first | (go_at_call 21; ((with_reducible refine (C_b1.out _).mono ?_); rintro e w9 ⟨rfl, rfl⟩)) | (go_at_call 28; fail))
                            go_ret
                            exact ⟨by rw [HE.out]; rfl, HBC.out⟩
                          | true =>
                            have d_b3 : decide ((255 : Int) < (l.val.size : Int)) = false := by have h := H_b3.out; unfold okText at h; simp only [decide_eq_true_iff] at h; simp only [decide_eq_false_iff_not]; omega
                            cases b4 with
                            | false =>
                              have d_b4 : decide ((255 : Int) < (l.kto.size : Int)) = true := by have h := H_b4.out; unfold okText at h; simp only [decide_eq_false_iff_not] at h; simp only [decide_eq_true_iff]; omega
                              clear H_b1 H_b2 H_b3 H_b4 H_b5 H_c1 H_c2 H_c3 H_c4 H_c5 H_c6
                              go_wp2_with (first | (go_at_call 21; ((with_reducible refine (C_b1.out _).mono ?_); rintro e w9 ⟨rfl, rfl⟩)) | (go_at_call 28; fail))
                              go_ret
                              exact ⟨by rw [HE.out]; rfl, HBC.out⟩
                            | true =>
                              have d_b4 : decide ((255 : Int) < (l.kto.size : Int)) = false := by have h := H_b4.out; unfold okText at h; simp only [decide_eq_true_iff] at h; simp only [decide_eq_false_iff_not]; omega
                              cases b5 with
                              | false =>
                                clear H_b1 H_b2 H_b3 H_b4 H_b5 H_c1 H_c2 H_c3 H_c4 H_c5 H_c6
                                go_wp2_with (first | (go_at_call 21; ((with_reducible refine (C_b1.out _).mono ?_); rintro e w9 ⟨rfl, rfl⟩)) | (go_at_call 22; ((with_reducible refine (C_b5.out _).mono ?_); rintro e w9 ⟨rfl, rfl⟩)) | (go_at_call 28; fail))
                                go_ret
                                exact ⟨by rw [HE.out]; rfl, HBC.out⟩
                              | true =>
                                go_upto_region 6 with (first | (go_at_call 21; ((with_reducible refine (C_b1.out _).mono ?_); rintro e w9 ⟨rfl, rfl⟩)) | (go_at_call 22; ((with_reducible refine (C_b5.out _).mono ?_); rintro e w9 ⟨rfl, rfl⟩)) | (go_at_call 28; fail))
                                cases c1 with
                                | false =>
                                  have d_c1 := H_c1.out
                                  clear H_b1 H_b2 H_b3 H_b4 H_b5 H_c1 H_c2 H_c3 H_c4 H_c5 H_c6
                                  go_wp2_with (first | (go_at_call 28; fail))
                                  go_ret
                                  exact ⟨by rw [HE.out]; rfl, HBC.out⟩
                                | true =>
                                  have d_c1 := H_c1.out
                                  cases c2 with
                                  | false =>
                                    have d_c2 := H_c2.out
                                    clear H_b1 H_b2 H_b3 H_b4 H_b5 H_c1 H_c2 H_c3 H_c4 H_c5 H_c6
                                    go_wp2_with (first | (go_at_call 28; fail))
                                    go_ret
                                    exact ⟨by rw [HE.out]; rfl, HBC.out⟩
                                  | true =>
                                    have d_c2 := H_c2.out
                                    cases c3 with
                                    | false =>
                                      have d_c3 : decide ((l.tv.size : Int) ≤ 255) = false := by have h := H_c3.out; unfold okText at h; simp only [decide_eq_false_iff_not] at h ⊢; omega
                                      clear H_b1 H_b2 H_b3 H_b4 H_b5 H_c1 H_c2 H_c3 H_c4 H_c5 H_c6
                                      go_wp2_with (first | (go_at_call 28; fail))
                                      go_ret
                                      exact ⟨by rw [HE.out]; rfl, HBC.out⟩
                                    | true =>
                                      have d_c3 : decide ((l.tv.size : Int) ≤ 255) = true := by have h := H_c3.out; unfold okText at h; simp only [decide_eq_true_iff] at h ⊢; omega
                                      cases c4 with
                                      | false =>
                                        have d_c4 : decide ((l.nx.size : Int) ≤ 255) = false := by have h := H_c4.out; unfold okText at h; simp only [decide_eq_false_iff_not] at h ⊢; omega
                                        clear H_b1 H_b2 H_b3 H_b4 H_b5 H_c1 H_c2 H_c3 H_c4 H_c5 H_c6
                                        go_wp2_with (first | (go_at_call 28; fail))
                                        go_ret
                                        exact ⟨by rw [HE.out]; rfl, HBC.out⟩
                                      | true =>
                                        have d_c4 : decide ((l.nx.size : Int) ≤ 255) = true := by have h := H_c4.out; unfold okText at h; simp only [decide_eq_true_iff] at h ⊢; omega
                                        cases c5 with
                                        | false =>
                                          clear H_b1 H_b2 H_b3 H_b4 H_b5 H_c1 H_c2 H_c3 H_c4 H_c5 H_c6
                                          go_wp2_with (first | (go_at_call 23; ((with_reducible refine (C_c5.out _ (by first | exact HB0.out | exact HBC.out)).mono ?_); rintro e w9 ⟨rfl, rfl⟩)) | (go_at_call 28; fail))
                                          go_ret
                                          exact ⟨by rw [HE.out]; rfl, HBC.out⟩
                                        | true =>
                                          cases c6 with
                                          | false =>
                                            clear H_b1 H_b2 H_b3 H_b4 H_b5 H_c1 H_c2 H_c3 H_c4 H_c5 H_c6
                                            go_wp2_with (first | (go_at_call 23; ((with_reducible refine (C_c5.out _ (by first | exact HB0.out | exact HBC.out)).mono ?_); rintro e w9 ⟨rfl, rfl⟩)) | (go_at_call 21; ((with_reducible refine (C_c6.out _).mono ?_); rintro e w9 ⟨rfl, rfl⟩)) | (go_at_call 28; fail))
                                            go_ret
                                            exact ⟨by rw [HE.out]; rfl, HBC.out⟩
                                          | true =>
                                            clear H_b1 H_b2 H_b3 H_b4 H_b5 H_c1 H_c2 H_c3 H_c4 H_c5 H_c6
                                            go_wp2_with (first | (go_at_call 23; ((with_reducible refine (C_c5.out _ (by first | exact HB0.out | exact HBC.out)).mono ?_); rintro e w9 ⟨rfl, rfl⟩)) | (go_at_call 21; ((with_reducible refine (C_c6.out _).mono ?_); rintro e w9 ⟨rfl, rfl⟩)) | (go_at_call 28; fail))
                                            go_ret
                                            exact ⟨by rw [HE.out]; rfl, HBC.out⟩
end Go.Proofs.YtbnmddopgbhapaaGreat
