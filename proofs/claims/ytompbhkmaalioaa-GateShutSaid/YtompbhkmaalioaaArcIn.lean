/-
  The walks of arc.Pieces and arc.In.
-/
import Derived.Test.YtompbhkmaalioaaArcRef
namespace Go.Proofs.Ytompbhkmaalioaa
open Go.RowKit

/-- a slice of an arc's pieces, at the head of a block of its own -/
def PiecesAt (w w' : World) (f t : Nat) (e : Ending) : Prop :=
  ∃ g, w.heap.size ≤ g ∧ g < w'.heap.size ∧ e = .returned (.slice (some ⟨g, 0, none⟩) (pN f t) (pN f t)) ∧ (∀ k, k < pN f t → w'.cell? ⟨g, k * 2, none⟩ = some (.int .u64 (pF f t k : Nat)) ∧ w'.cell? ⟨g, k * 2 + 1, none⟩ = some (.int .u64 (pT f t k : Nat))) ∧ Below w.heap.size w w'

theorem pieces_one {w : World} {f t : Nat} {o : Obj} (h : oneB f t = true) :
    PiecesAt w ((w.alloc o).alloc (.cells #[.int .u64 (f : Nat), .int .u64 (t : Nat)] 27)) f t (.returned (.slice (some ⟨w.heap.size + 1, 0, none⟩) 1 1)) := by
  have hn : pN f t = 1 := by simp [pN, h]
  refine ⟨w.heap.size + 1, by omega, by simp, by rw [hn], fun k hk => ?_, below2 w _ _⟩
  obtain rfl : k = 0 := by omega
  have h1 : pF f t 0 = f := by simp [pF]
  have h2 : pT f t 0 = t := by simp [pT, h]
  rw [h1, h2]
  constructor <;> go_simp
theorem pieces_two {w : World} {f t : Nat} {o : Obj} (h : oneB f t = false) :
    PiecesAt w ((w.alloc o).alloc (.cells #[.int .u64 (f : Nat), .int .u64 0, .int .u64 0, .int .u64 (t : Nat)] 27)) f t (.returned (.slice (some ⟨w.heap.size + 1, 0, none⟩) 2 2)) := by
  have hn : pN f t = 2 := by simp [pN, h]
  refine ⟨w.heap.size + 1, by omega, by simp, by rw [hn], fun k hk => ?_, below2 w _ _⟩
  have h1 : pF f t 0 = f := by simp [pF]
  have h2 : pT f t 0 = 0 := by simp [pT, h]
  have h3 : pF f t 1 = 0 := by simp [pF]
  have h4 : pT f t 1 = t := by simp [pT]
  obtain rfl | rfl : k = 0 ∨ k = 1 := by omega
  · rw [h1, h2]
    constructor <;> go_simp <;> rfl
  · rw [h3, h4]
    constructor <;> go_simp <;> rfl

set_option maxHeartbeats 400000 in
theorem pieces_any (f t : Nat) (w : World) :
    Calls Try.prog 23 #[.agg #[.int .u64 f, .int .u64 t]] w fun e w' => PiecesAt w w' f t e := by
  by_cases h0 : t = 0
  · have HO := Lib.hid (show oneB f t = true by simp [oneB, h0])
    have b1 : ((t : Int) == 0) = true := by rw [beq_iff_eq]; omega
    clear h0
    go_enter Try.func23, Try.ntmps23
    go_wp2
    go_ret
    exact pieces_one HO.out
  · have b1 : ((t : Int) == 0) = false := by rw [beq_eq_false_iff_ne]; omega
    by_cases h1 : f < t
    · have HO := Lib.hid (show oneB f t = true by simp [oneB, h1])
      have b2 : decide (f < t) = true := by simp; omega
      clear h0 h1
      go_enter Try.func23, Try.ntmps23
      go_wp2
      go_ret
      exact pieces_one HO.out
    · have HO := Lib.hid (show oneB f t = false by simp [oneB, h1, h0])
      have b2 : decide (f < t) = false := by simp; omega
      clear h0 h1
      go_enter Try.func23, Try.ntmps23
      go_wp2
      go_ret
      exact pieces_two HO.out

/-- x lies in one of the pieces from k on -/
def fromB (f t x k : Nat) : Bool := (List.range (pN f t - k)).any fun i => pieceB (pF f t (k + i)) (pT f t (k + i)) x
theorem from_end (f t x : Nat) : fromB f t x (pN f t) = false := by simp [fromB]
theorem from_step (f t x k : Nat) (h : k < pN f t) : fromB f t x k = (pieceB (pF f t k) (pT f t k) x || fromB f t x (k + 1)) := by
  unfold fromB
  obtain ⟨m, hm⟩ : ∃ m, pN f t - k = m + 1 := ⟨pN f t - k - 1, by omega⟩
  rw [hm, show pN f t - (k + 1) = m by omega, List.range_succ_eq_map, List.any_cons, List.any_map]
  congr 2
  funext i
  simp only [Function.comp]
  rw [show k + (i + 1) = k + 1 + i by omega]
theorem from_all (f t x : Nat) (hf : f < 18446744073709551616) (ht : t < 18446744073709551616) (hx : x < 18446744073709551616) : fromB f t x 0 = inB f t x := by
  by_cases h : oneB f t = true
  · have hn : pN f t = 1 := by simp [pN, h]
    rw [from_step _ _ _ _ (by omega), show (0 + 1) = pN f t by omega, from_end]
    simp only [pF, pT, h, if_true, Bool.or_false, pieceB, inB]
    simp only [oneB, Bool.or_eq_true, beq_iff_eq, decide_eq_true_eq] at h
    rw [Bool.eq_iff_iff]
    simp only [Bool.and_eq_true, Bool.or_eq_true, beq_iff_eq, decide_eq_true_eq]
    have c1 := sub64_cases hx hf
    have c2 := sub64_cases ht hf
    generalize sub64 x f = p at *
    generalize sub64 t f = q at *
    constructor
    · intro g; omega
    · intro g; omega
  · have h : oneB f t = false := by simpa using h
    have hn : pN f t = 2 := by simp [pN, h]
    rw [from_step _ _ _ _ (by omega), from_step _ _ _ _ (by omega), show (0 + 1 + 1) = pN f t by omega, from_end]
    simp [pF, pT, h, pieceB, inB]
    simp only [oneB, Bool.or_eq_false_iff, beq_eq_false_iff_ne, decide_eq_false_iff_not] at h
    rw [Bool.eq_iff_iff]
    simp only [Bool.or_eq_true, beq_iff_eq, decide_eq_true_eq]
    have c1 := sub64_cases hx hf
    have c2 := sub64_cases ht hf
    generalize sub64 x f = p at *
    generalize sub64 t f = q at *
    constructor
    · intro g; omega
    · intro g; omega
theorem pN_le (f t : Nat) : pN f t ≤ 2 := by unfold pN; split <;> omega
theorem from_yes {f t x k : Nat} (h : k < pN f t) (h2 : pieceB (pF f t k) (pT f t k) x = true) : fromB f t x k = true := by rw [from_step _ _ _ _ h, h2]; rfl
theorem from_no {f t x k : Nat} (h : k < pN f t) (h2 : pieceB (pF f t k) (pT f t k) x = false) : fromB f t x k = fromB f t x (k + 1) := by rw [from_step _ _ _ _ h, h2]; rfl
/-- the round's case, its facts in the walk's own spelling -/
theorem piece_cases (F T x : Nat) : (decide (x < F) = true ∧ pieceB F T x = false) ∨ (decide (x < F) = false ∧ ((T : Int) == 0) = true ∧ pieceB F T x = true) ∨
    (decide (x < F) = false ∧ ((T : Int) == 0) = false ∧ decide (x < T) = true ∧ pieceB F T x = true) ∨ (decide (x < F) = false ∧ ((T : Int) == 0) = false ∧ decide (x < T) = false ∧ pieceB F T x = false) := by
  have e : ((T : Int) == 0) = (T == 0) := nat_beq T 0
  rw [e]
  by_cases h1 : x < F
  · exact .inl ⟨by simp [h1], by simp [pieceB]; omega⟩
  · by_cases h2 : T = 0
    · exact .inr (.inl ⟨by simp; omega, by simp [h2], by simp [pieceB, h2]; omega⟩)
    · by_cases h3 : x < T
      · exact .inr (.inr (.inl ⟨by simp; omega, by simp [h2], by simp [h3], by simp [pieceB, h3]; omega⟩))
      · exact .inr (.inr (.inr ⟨by simp; omega, by simp [h2], by simp; omega, by simp [pieceB]; omega⟩))

set_option maxHeartbeats 400000 in
theorem in_any (f t x : Nat) (w : World) (hf : f < 18446744073709551616) (ht : t < 18446744073709551616) (hx : x < 18446744073709551616) :
    Calls Try.prog 20 #[.agg #[.int .u64 f, .int .u64 t], .int .u64 x] w fun e w' => e = .returned (.bool (inB f t x)) ∧ Below w.heap.size w w' := by
  have HA := Lib.hid (from_all f t x hf ht hx)
  have hn := pN_le f t
  generalize inB f t x = ans at *
  clear hf ht hx
  go_enter Try.func20, Try.ntmps20
  go_wp2
  go_step3
  go_wp2
  go_step3
  go_wp2_with (go_at_call 23; refine (pieces_any f t _).mono ?_; rintro e w1 ⟨g, hg0, hg1, rfl, hcell, hb1⟩)
  have HC := Lib.hid hcell
  have HB := Lib.hid hb1
  have HG := Lib.hid hg0
  clear hcell hb1 hg0
  generalize hnn : pN f t = n at *
  have HN := Lib.hid hnn
  clear hnn
  go_loopg [5, 11] 3 (fun z s5 s11 wx => ∃ (k : Nat), k + z = 3 ∧ k ≤ n ∧ s5 = .bool false ∧ s11 = .int .i64 k ∧ Hid (fromB f t x k = ans) ∧ Below w1.heap.size w1 wx)
  case atStart => exact ⟨0, by omega, by omega, rfl, rfl, HA, Below.refl _ _⟩
  case round =>
    obtain ⟨k, hkz, hkn, rfl, rfl, HK, hbk⟩ := hrel
    have hbz := hbk.size
    by_cases hk : k < n
    · have b0 : decide (k < n) = true := by simp; omega
      obtain ⟨h1, h2⟩ := HC.out k (by omega)
      have hc1 : wr.cell? ⟨g, k * 2, none⟩ = some (.int .u64 (pF f t k : Nat)) := (hbk.cell (p := ⟨g, k * 2, none⟩) hg1).trans h1
      have hc2 : wr.cell? ⟨g, k * 2 + 1, none⟩ = some (.int .u64 (pT f t k : Nat)) := (hbk.cell (p := ⟨g, k * 2 + 1, none⟩) hg1).trans h2
      clear h1 h2
      have hcase := piece_cases (pF f t k) (pT f t k) x
      have HY := Lib.hid fun h => from_yes (f := f) (t := t) (x := x) (k := k) (by have := HN.out; omega) h
      have HO := Lib.hid fun h => from_no (f := f) (t := t) (x := x) (k := k) (by have := HN.out; omega) h
      generalize pF f t k = F at *
      generalize pT f t k = T at *
      have HBK := Lib.hid hbk
      clear hbk
      have HE := Lib.hid (((((Below.refl w.heap.size w).alloc (Nat.le_refl _) (.cells #[.int .u64 (f : Nat), .int .u64 (t : Nat)] 27)).trans (HB.out.mono (by simp))).trans (HBK.out.mono (by have := HB.out.size; simp at this; omega))).alloc (by have := HB.out.size; simp at this; omega) (.cells #[.int .u64 (F : Nat), .int .u64 (T : Nat)] 27))
      rcases hcase with ⟨d1, hp⟩ | ⟨d1, d2, hp⟩ | ⟨d1, d2, d3, hp⟩ | ⟨d1, d2, d3, hp⟩
      all_goals
        have HP := Lib.hid hp
        clear hp
      ·
        go_wp2
        go_roundg (gk - 1)
        case measure => omega
        case rel => exact ⟨k + 1, by omega, by omega, rfl, by go_num, (HO.out HP.out).symm.trans HK.out, HBK.out.alloc (Nat.le_trans (Nat.le_refl _) hbz) _⟩
      ·
        have e : ans = true := by rw [← HK.out]; exact HY.out HP.out
        have HR := Lib.hid e
        clear e HP HY HO HK
        go_wp2
        rw [Exit.noGoto_ret]
        go_ret
        exact ⟨by rw [HR.out]; rfl, HE.out⟩
      ·
        have e : ans = true := by rw [← HK.out]; exact HY.out HP.out
        have HR := Lib.hid e
        clear e HP HY HO HK
        go_wp2
        rw [Exit.noGoto_ret]
        go_ret
        exact ⟨by rw [HR.out]; rfl, HE.out⟩
      ·
        go_wp2
        go_roundg (gk - 1)
        case measure => omega
        case rel => exact ⟨k + 1, by omega, by omega, rfl, by go_num, (HO.out HP.out).symm.trans HK.out, HBK.out.alloc (Nat.le_trans (Nat.le_refl _) hbz) _⟩
    · obtain rfl : k = n := by omega
      have e : ans = false := by rw [← HK.out, ← HN.out]; exact from_end _ _ _
      have HR := Lib.hid e
      have b0 : decide (k < k) = false := by simp
      have HE := Lib.hid ((((Below.refl w.heap.size w).alloc (Nat.le_refl _) (.cells #[.int .u64 (f : Nat), .int .u64 (t : Nat)] 27)).trans (HB.out.mono (by simp))).trans (hbk.mono (by have := HB.out.size; simp at this; omega)))
      clear e HK hbk
      go_wp2
      rw [Exit.noGoto_ret]
      go_ret
      exact ⟨by rw [HR.out]; rfl, HE.out⟩
end Go.Proofs.Ytompbhkmaalioaa
