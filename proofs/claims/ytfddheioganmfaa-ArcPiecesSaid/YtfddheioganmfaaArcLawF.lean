/-
  The walk of the statement ArcPieces of chapter 2.
-/
import Derived.Test.YtfddheioganmfaaArcKeep
import Derived.Deep.RegionHeld3
import Derived.Deep.DeepCutAuto
namespace Go.Proofs.Ytfddheioganmfaa
open Go.RowKit

/-- how many of the first k pieces have the point -/
def cntP (f t x k : Nat) : Nat := ((List.range k).filter fun i => pieceB (pF f t i) (pT f t i) x).length
theorem cnt_step (f t x k : Nat) : cntP f t x (k + 1) = cntP f t x k + (if pieceB (pF f t k) (pT f t k) x = true then 1 else 0) := by
  unfold cntP
  rw [List.range_succ, List.filter_append, List.length_append]
  congr 1
  by_cases h : pieceB (pF f t k) (pT f t k) x = true <;> simp [h]
theorem cnt_all {f t x : Nat} (hf : f < 18446744073709551616) (ht : t < 18446744073709551616) (hx : x < 18446744073709551616) : cntP f t x (pN f t) = if inB f t x = true then 1 else 0 := by
  have h0 : cntP f t x 0 = 0 := rfl
  have c1 := sub64_cases hx hf
  have c2 := sub64_cases ht hf
  rcases one_cases f t with ⟨_, n1, q1, q2, q3⟩ | ⟨_, n1, q1, q2, q3, q4, q5, q6⟩
  · have e : inB f t x = true ↔ pieceB f t x = true := by
      rw [in_iff]
      simp only [pieceB, Bool.and_eq_true, Bool.or_eq_true, beq_iff_eq, decide_eq_true_eq]
      constructor <;> intro h <;> omega
    rw [n1, cnt_step, h0, q1, q2]
    by_cases h : pieceB f t x = true
    · rw [if_pos h, if_pos (e.2 h)]
    · rw [if_neg h, if_neg (fun g => h (e.1 g))]
  · have e : inB f t x = true ↔ (f ≤ x ∨ x < t) := by
      rw [in_iff]
      constructor <;> intro h <;> omega
    have e1 : pieceB f 0 x = true ↔ f ≤ x := by simp [pieceB]
    have e2 : pieceB 0 t x = true ↔ x < t := by simp [pieceB, q5]
    rw [n1, cnt_step, cnt_step, h0, q1, q2, q3, q4]
    by_cases h1 : f ≤ x
    · rw [if_pos (e1.2 h1), if_neg (fun g => by have := e2.1 g; omega), if_pos (e.2 (.inl h1))]
    · rw [if_neg (fun g => h1 (e1.1 g))]
      by_cases h2 : x < t
      · rw [if_pos (e2.2 h2), if_pos (e.2 (.inr h2))]
      · rw [if_neg (fun g => h2 (e2.1 g)), if_neg (fun g => by have := e.1 g; omega)]
theorem piece_ok {f t k : Nat} (h : k < pN f t) : pT f t k = 0 ∨ pF f t k < pT f t k := by
  rcases one_cases f t with ⟨_, n1, q1, q2, q3⟩ | ⟨_, n1, q1, q2, q3, q4, q5, q6⟩
  · obtain rfl : k = 0 := by omega
    omega
  · obtain rfl | rfl : k = 0 ∨ k = 1 := by omega
    · omega
    · omega
/-- the round's case, its facts in the walk's own spelling -/
theorem round_cases {F T : Nat} (x : Nat) (h : T = 0 ∨ F < T) :
    ((((T : Int) != 0) = false ∧ ((T : Int) == 0) = true) ∨ (((T : Int) != 0) = true ∧ ((T : Int) == 0) = false ∧ decide (T ≤ F) = false)) ∧
    ((decide (F ≤ x) = false ∧ pieceB F T x = false) ∨ (decide (F ≤ x) = true ∧ ((T : Int) == 0) = true ∧ pieceB F T x = true) ∨
    (decide (F ≤ x) = true ∧ ((T : Int) == 0) = false ∧ decide (x < T) = true ∧ pieceB F T x = true) ∨ (decide (F ≤ x) = true ∧ ((T : Int) == 0) = false ∧ decide (x < T) = false ∧ pieceB F T x = false)) := by
  have e : ((T : Int) == 0) = (T == 0) := nat_beq T 0
  have e2 : ((T : Int) != 0) = !(T == 0) := by rw [← e]; rfl
  rw [e, e2]
  unfold pieceB
  by_cases h1 : F ≤ x <;> by_cases h2 : T = 0 <;> by_cases h3 : x < T <;> simp [h1, h2, h3] <;> omega

set_option maxHeartbeats 3200000 in
theorem arcPieces_walk (f t x : Nat) (w : World) (hf : f < 18446744073709551616) (ht : t < 18446744073709551616) (hx : x < 18446744073709551616) :
    Calls Try.prog 4 #[.agg #[.int .u64 f, .int .u64 t], .int .u64 x] w fun e w' => e = .returned (.bool true) ∧ Below w.heap.size w w' := by
  have hB0 : Below w.heap.size w w := Below.refl _ _
  have C2 := Lib.hid (fun W => refIn_any f t x W hf ht hx)
  have HCN := Lib.hid (cnt_all hf ht hx)
  have HPK := Lib.hid (fun k h => piece_ok (f := f) (t := t) (k := k) h)
  have hn1 : 1 ≤ pN f t := by unfold pN; split <;> omega
  have hn2 := pN_le f t
  have H1 := Lib.hid (one_cases f t)
  have hp0 : pF f t 0 = f := by simp [pF]
  clear hf ht hx
  generalize inB f t x = ans at *
  generalize hnn : pN f t = n at *
  have HN := Lib.hid hnn
  clear hnn
  go_enter Try.func4, Try.ntmps4
  go_upto_region 4 with (first
    | (go_at_call 11; ((with_reducible refine (alive_any _).mono ?_); rintro e w1 ⟨rfl, hb1⟩; have hB1 : Below w.heap.size w w1 := (by first | exact acc (by assumption) hb1 | exact acc (accA (by assumption) _) hb1 | exact acc (accA (accA (by assumption) _) _) hb1 | exact acc (accA (accA (accA (by assumption) _) _) _) hb1); have K1a : Hid (Cel w1 (w.heap.size) (f) (t)) := (by first | exact Lib.hid (Cel.step (Hid.out (by assumption)) hb1) | exact Lib.hid (Cel.step (Cel.new _ _ _ _) hb1) | exact Lib.hid (Cel.step (Cel.alloc (Hid.out (by assumption)) _) hb1) | exact Lib.hid (Cel.step (Cel.alloc (Cel.new _ _ _ _) _) hb1) | exact Lib.hid (Cel.step (Cel.new1 _ _ _ _ _) hb1) | exact Lib.hid (Cel.step (Cel.alloc (Cel.alloc (Hid.out (by assumption)) _) _) hb1) | exact Lib.hid (Cel.step (Cel.alloc (Cel.new1 _ _ _ _ _) _) hb1) | exact Lib.hid (Cel.step (Cel.alloc (Cel.alloc (Cel.new _ _ _ _) _) _) hb1) | exact Lib.hid (Cel.step (Cel.new2 _ _ _ _ _ _) hb1)); obtain ⟨z1a, p1a, q1a⟩ := K1a.out; clear hb1))
    | (go_at_call 22; refine (pieces_any f t _).mono ?_; rintro e w2 ⟨g, hg0, hg1, rfl, hcell, hb2⟩; have hB2 : Below w.heap.size w w2 := acc hB1 hb2; have K2 : Hid (Cel w2 w.heap.size f t) := Lib.hid (Cel.step K1a.out hb2); obtain ⟨z2, p2, q2⟩ := K2.out; clear hb2 hg0))
  have HC : Hid (∀ k, k < n → w2.cell? ⟨g, k * 2, none⟩ = some (.int .u64 (pF f t k : Nat)) ∧ w2.cell? ⟨g, k * 2 + 1, none⟩ = some (.int .u64 (pT f t k : Nat))) := by rw [← HN.out]; exact hcell
  clear hcell
  have hc0 : w2.cell? ⟨g, 0, none⟩ = some (.int .u64 (f : Nat)) := by
    have h := (HC.out 0 (by omega)).1
    rw [hp0] at h
    exact h
  have hN : pN f t = n := HN.out
  rw [hN]
  have b1 : decide ((n : Int) < 1) = false := by simp; omega
  have b2 : decide (2 < (n : Int)) = false := by simp; omega
  have hpos : 0 < n := by omega
  clear hp0 hN
  go_quiet (fail)
  go_wp2
  go_loopg [6, 32] 3 (fun z s6 s32 wx => ∃ k c : Nat, k + z = 3 ∧ k ≤ n ∧ s32 = .int .i64 k ∧ s6 = .int .i64 c ∧ c ≤ k ∧ Hid (c = cntP f t x k) ∧ Below w2.heap.size w2 wx)
  case atStart => exact ⟨0, 0, by omega, by omega, rfl, rfl, by omega, rfl, ⟨rfl, rfl, rfl, Nat.le_refl _, fun _ _ => rfl⟩⟩
  case round =>
    obtain ⟨k, c, hkz, hkn, rfl, rfl, hck, HK, hbk⟩ := hrel
    have hbz := hbk.size
    by_cases hk : k < n
    · have b0 : decide (k < n) = true := by simp; omega
      obtain ⟨h1, h2⟩ := HC.out k (by omega)
      have hc1 : wr.cell? ⟨g, k * 2, none⟩ = some (.int .u64 (pF f t k : Nat)) := (hbk.cell (p := ⟨g, k * 2, none⟩) hg1).trans h1
      have hc2 : wr.cell? ⟨g, k * 2 + 1, none⟩ = some (.int .u64 (pT f t k : Nat)) := (hbk.cell (p := ⟨g, k * 2 + 1, none⟩) hg1).trans h2
      obtain ⟨ha, hb⟩ := round_cases x (HPK.out k hk)
      have HS := Lib.hid (cnt_step f t x k)
      generalize pF f t k = F at *
      generalize pT f t k = T at *
      have HBK := Lib.hid hbk
      clear hbk h1 h2
      rcases ha with ⟨a1, a2⟩ | ⟨a1, a2, a3⟩ <;> rcases hb with ⟨d1, hp⟩ | ⟨d1, d2, hp⟩ | ⟨d1, d2, d3, hp⟩ | ⟨d1, d2, d3, hp⟩
      all_goals first | (exfalso; rw [a2] at d2; cases d2; done) | skip
      all_goals
        have HP := Lib.hid hp
        clear hp
        go_wp2
        go_roundg (gk - 1)
        case measure => omega
        case rel => first | exact ⟨k + 1, c, by omega, by omega, by go_num, rfl, by omega, by show _ = _; rw [HS.out, HP.out, ← HK.out]; rfl, HBK.out.alloc hbz _⟩ | exact ⟨k + 1, c + 1, by omega, by omega, by go_num, by go_num, by omega, by show _ = _; rw [HS.out, HP.out, ← HK.out]; rfl, HBK.out.alloc hbz _⟩
    · obtain rfl : k = n := by omega
      have b0 : decide (k < k) = false := by simp
      have hcv : c = if ans = true then 1 else 0 := HK.out.trans HCN.out
      have r0 : wr.cell? ⟨w.heap.size, 0, none⟩ = some (.int .u64 (f : Nat)) := (hbk.cell (p := ⟨w.heap.size, 0, none⟩) z2).trans p2
      have r1 : wr.cell? ⟨w.heap.size, 1, none⟩ = some (.int .u64 (t : Nat)) := (hbk.cell (p := ⟨w.heap.size, 1, none⟩) z2).trans q2
      have zr : w.heap.size < wr.heap.size := by omega
      have hg2 := HC.out
      have HE := Lib.hid (acc hB2 hbk)
      have hcell2 : ∀ o v, w2.cell? ⟨g, o, none⟩ = some v → wr.cell? ⟨g, o, none⟩ = some v := fun o v h => (hbk.cell (p := ⟨g, o, none⟩) hg1).trans h
      have h1 := H1.out
      clear HK HCN hbk HC H1 HPK hB0 hB1 hB2 K1a K2 hc0 b1 b2
      rcases h1 with ⟨_, n1, t0, t1, t2⟩ | ⟨_, n1, t0, t1, t2, t3, t4, t5⟩
      · subst n1
        have l1 : wr.cell? ⟨g, 1, none⟩ = some (.int .u64 (t : Nat)) := hcell2 1 _ (by have h := (hg2 0 (by omega)).2; rw [t1] at h; exact h)
        clear hg2 hcell2 t0 t1
        by_cases h0 : t = 0
        · have d1 : ((t : Int) != 0) = false := by rw [h0]; rfl
          have d2 : decide (t ≤ f) = true := by simp; omega
          clear h0 t2
          cases ans
          all_goals
            simp only [Bool.false_eq_true, if_false, if_true] at hcv
            subst hcv
            go_wp2
            go_quiet (fail)
            go_wp2_with (go_at_call 13; (with_reducible refine (C2.out _).mono ?_); rintro e w9 ⟨rfl, hb9⟩; have hw9 : Below wr.heap.size wr w9 := draw_then hb9; have K9 := Cel.step (W := wr) ⟨zr, r0, r1⟩ hw9; obtain ⟨z9, p9, q9⟩ := K9; have HE9 := Lib.hid (acc HE.out hw9); clear hb9 hw9)
            go_ret
            exact ⟨rfl, HE9.out⟩
        · have d1 : ((t : Int) != 0) = true := by rw [bne_iff_ne]; omega
          have d2 : decide (t ≤ f) = false := by simp; omega
          clear h0 t2
          cases ans
          all_goals
            simp only [Bool.false_eq_true, if_false, if_true] at hcv
            subst hcv
            go_wp2
            go_quiet (fail)
            go_wp2_with (go_at_call 13; (with_reducible refine (C2.out _).mono ?_); rintro e w9 ⟨rfl, hb9⟩; have hw9 : Below wr.heap.size wr w9 := draw_then hb9; have K9 := Cel.step (W := wr) ⟨zr, r0, r1⟩ hw9; obtain ⟨z9, p9, q9⟩ := K9; have HE9 := Lib.hid (acc HE.out hw9); clear hb9 hw9)
            go_ret
            exact ⟨rfl, HE9.out⟩
      · subst n1
        have l1 : wr.cell? ⟨g, 1, none⟩ = some (.int .u64 0) := hcell2 1 _ (by have h := (hg2 0 (by omega)).2; rw [t1] at h; exact h)
        have l2 : wr.cell? ⟨g, 2, none⟩ = some (.int .u64 0) := hcell2 2 _ (by have h := (hg2 1 (by omega)).1; rw [t2] at h; exact h)
        have l3 : wr.cell? ⟨g, 3, none⟩ = some (.int .u64 (t : Nat)) := hcell2 3 _ (by have h := (hg2 1 (by omega)).2; rw [t3] at h; exact h)
        have d1 : ((t : Int) != 0) = true := by rw [bne_iff_ne]; omega
        have d2 : decide (t ≤ f) = true := by simp; omega
        have d3 : ((f : Int) == 0) = false := by rw [beq_eq_false_iff_ne]; omega
        clear hg2 hcell2 t0 t1 t2 t3 t4 t5
        cases ans
        all_goals
          simp only [Bool.false_eq_true, if_false, if_true] at hcv
          subst hcv
          go_wp2
          go_quiet (fail)
          go_wp2_with (go_at_call 13; (with_reducible refine (C2.out _).mono ?_); rintro e w9 ⟨rfl, hb9⟩; have hw9 : Below wr.heap.size wr w9 := draw_then hb9; have K9 := Cel.step (W := wr) ⟨zr, r0, r1⟩ hw9; obtain ⟨z9, p9, q9⟩ := K9; have HE9 := Lib.hid (acc HE.out hw9); clear hb9 hw9)
          go_ret
          exact ⟨rfl, HE9.out⟩
end Go.Proofs.Ytfddheioganmfaa
