/-
  Who asks for what went is sent there, as long as the pointer stays (HoldPoints). (Written by tools/genHP.py.)
-/
import Derived.Test.YthgndgoljchnfaaGreatHdAlive
namespace Go.Proofs.YthgndgoljchnfaaGreat
open Go.RowKit

/-- its states: all that it had went to n, j ticks ago -/
def P1 : HO := (HO.new 1 5).take 0 0 0
def P2 : HO := ⟨P1.nd, P1.most, P1.kept, P1.own, P1.its, ⟨true, 0, 0, P1.g.l, P1.g.k⟩, P1.k⟩
def PJ (n : Int) (j : Nat) : HO := ⟨1, min (max 5 0) 200, 0, fun x => if inB 0 0 x = true then none else P2.own x, leftI P2.its 0 0, ⟨false, 0, 0, oneL 0 0 n j, j⟩, 2⟩
theorem P2_lose (n : Int) : P2.lose n = PJ n 0 := rfl
theorem PJ_tick (n : Int) (j : Nat) : (⟨(PJ n j).nd, (PJ n j).most, (PJ n j).kept, (PJ n j).own, (PJ n j).its, (PJ n j).g.tick, (PJ n j).k⟩ : HO) = PJ n (j + 1) := by
  have e : (PJ n j).g.tick = (PJ n (j + 1)).g := by
    show GS.mk false 0 0 (agedL (oneL 0 0 n j)) (j + 1) = _
    rw [oneL_tick]
    rfl
  rw [e]
  rfl
theorem PJ_own (n : Int) (j x : Nat) : (PJ n j).own x = none := if_pos (e := P2.own x) (in_whole 0 x)
theorem PJ_len (n : Int) (j : Nat) : (PJ n j).g.l.length ≤ 1000 := by
  show (oneL 0 0 n j).length ≤ 1000
  unfold oneL
  split <;> simp
theorem PJ_over (n : Int) (j x : Nat) : (overL (PJ n j).g.l x).getD (-1) = if j < 40 then n else -1 := by
  show (overL (oneL 0 0 n j) x).getD (-1) = _
  unfold oneL
  by_cases h : j < 40
  · rw [if_pos h, if_pos h]
    have e : overL [⟨0, 0, n, j⟩] x = some n := (overL_snoc [] ⟨0, 0, n, j⟩ x).trans (if_pos (in_whole 0 x))
    rw [e]
    rfl
  · rw [if_neg h, if_neg h]
    rfl
theorem P1_own (x : Nat) : P1.own x = some 0 := HO.take_own (in_whole 0 x)
section
variable {VD : World → Nat → HO → List Nat → Prop}
set_option maxRecDepth 20000 in
set_option maxHeartbeats 4000000 in
theorem holdPoints_any (L : HoldLaws VD) (k : ByteArray) (n c : Int) (W : World) (hk : k.size ≤ maxLen) (hn : Wide n) (hc : Wide c) :
    Calls Tryz.prog 10 #[.string k, .int .i64 n, .int .i64 c] W fun e w' => e = .returned (.bool true) ∧ Below W.heap.size W w' := by
  have CA := Lib.hid (holdAlive_any L)
  by_cases q0 : k.size < 1
  · have d0 : decide ((k.size : Int) < 1) = true := decide_eq_true (by omega)
    go_enter Tryz.func10, Tryz.ntmps10
    go_wp2_with (go_at_call 11; (with_reducible refine (CA.out _).mono ?_); rintro e w1 ⟨rfl, h1⟩)
    go_ret
    exact ⟨rfl, h1⟩
  have d0 : decide ((k.size : Int) < 1) = false := decide_eq_false (by omega)
  by_cases q1 : 16 < k.size
  · have d1 : decide (16 < (k.size : Int)) = true := decide_eq_true (by omega)
    go_enter Tryz.func10, Tryz.ntmps10
    go_wp2_with (go_at_call 11; (with_reducible refine (CA.out _).mono ?_); rintro e w1 ⟨rfl, h1⟩)
    go_ret
    exact ⟨rfl, h1⟩
  have d1 : decide (16 < (k.size : Int)) = false := decide_eq_false (by omega)
  by_cases q2 : c < 0
  · have d2 : decide (c < 0) = true := decide_eq_true (by omega)
    go_enter Tryz.func10, Tryz.ntmps10
    go_wp2_with (go_at_call 11; (with_reducible refine (CA.out _).mono ?_); rintro e w1 ⟨rfl, h1⟩)
    go_ret
    exact ⟨rfl, h1⟩
  have d2 : decide (c < 0) = false := decide_eq_false (by omega)
  by_cases q3 : 60 < c
  · have d3 : decide (60 < c) = true := decide_eq_true (by omega)
    go_enter Tryz.func10, Tryz.ntmps10
    go_wp2_with (go_at_call 11; (with_reducible refine (CA.out _).mono ?_); rintro e w1 ⟨rfl, h1⟩)
    go_ret
    exact ⟨rfl, h1⟩
  have d3 : decide (60 < c) = false := decide_eq_false (by omega)
  obtain ⟨m, hm⟩ : ∃ m : Nat, c = m := ⟨c.toNat, by omega⟩
  subst hm
  have C0 : Hid (∀ w, Below W.heap.size W w → Calls Tryz.prog 12 #[.int .i64 1, .int .i64 5] w fun e w' => ∃ g, e = .returned (.pointer (some ⟨g, 0, none⟩)) ∧ DX VD W w' [] g (HO.new 1 5)) := fun w hw => by
    refine (DX.new (P := []) L 1 5 hw (by simp) ⟨by decide, by decide⟩ ⟨by decide, by decide⟩).mono ?_
    rintro e w' ⟨g, rfl, h, -⟩
    exact ⟨g, rfl, h⟩
  have C1 : Hid (∀ w g, DX VD W w [] g (HO.new 1 5) → Calls Tryz.prog 13 #[.pointer (some ⟨g, 0, none⟩), .agg #[.int .u64 0, .int .u64 0], .int .i64 0] w fun e w' => e = .returned (.bool true) ∧ DX VD W w' [] g P1) := fun w g h => by
    refine (h.own L 0 0 0 (by decide) (by decide) ⟨by decide, by decide⟩ (by decide)).mono ?_
    rintro e w' (⟨-, rfl, h1, -⟩ | ⟨h1, -⟩)
    · exact ⟨rfl, h1⟩
    · exact absurd (HO.may_new (by decide)) h1
  have C2 : Hid (∀ w g, DX VD W w [] g P1 → Calls Tryz.prog 20 #[.pointer (some ⟨g, 0, none⟩), .agg #[.int .u64 0, .int .u64 0]] w fun e w' => ∃ S ep, e = .returned (.tuple #[S, .int .i64 ep, .int .i64 0]) ∧ DX VD W w' [] g P2) := fun w g h => by
    refine (h.freeze L 0 0 (by decide) (by decide) (by decide)).mono ?_
    rintro e w' ⟨l, ep, er, s1, S, rfl, ho, hx, -, (⟨z, _⟩ | ⟨_, ⟨x, _, _, z⟩, _⟩ | ⟨_, _, rfl, rfl, z, rfl⟩)⟩
    · exact absurd z (by decide)
    · rw [P1_own] at z
      cases z
    · exact ⟨S, ep, rfl, hx.less (by simp)⟩
  have C3 : Hid (∀ w g, DX VD W w [] g P2 → Calls Tryz.prog 25 #[.pointer (some ⟨g, 0, none⟩), .int .i64 n] w fun e w' => e = .returned (.int .i64 0) ∧ DX VD W w' [] g (PJ n 0)) := fun w g h => by
    refine (h.lose L n hn (by decide) (by decide)).mono ?_
    rintro e w' (⟨-, rfl, h1, -⟩ | ⟨z, -⟩)
    · rw [P2_lose] at h1
      exact ⟨rfl, h1⟩
    · exact absurd z (by decide)
  have C4 : Hid (∀ w g j, j ≤ 60 → DX VD W w [] g (PJ n j) → Calls Tryz.prog 31 #[.pointer (some ⟨g, 0, none⟩)] w fun e w' => e = .returned (.tuple #[]) ∧ DX VD W w' [] g (PJ n (j + 1))) := fun w g j hj h => by
    refine (h.tick L (PJ_len n j) (by show j ≤ 1000000; omega)).mono ?_
    rintro e w' ⟨rfl, h1, -⟩
    rw [PJ_tick] at h1
    exact ⟨rfl, h1⟩
  have C5 : Hid (∀ w g, DX VD W w [] g (PJ n m) → Calls Tryz.prog 14 #[.pointer (some ⟨g, 0, none⟩), .agg #[.int .i64 1, .string k, .string ⟨#[]⟩, .string ⟨#[]⟩, .int .i64 0]] w fun e w' => ∃ A a b, e = .returned (.agg #[.int .i64 8, .string ⟨#[]⟩, .slice A a b, .bool false, .string ⟨#[]⟩, .int .i64 (if m < 40 then n else -1)]) ∧ DX VD W w' [] g (PJ n m)) := fun w g h => by
    refine (h.do_ L ⟨1, k, ⟨#[]⟩, ⟨#[]⟩, 0⟩ ⟨⟨by simp, by simp⟩, hk, Nat.zero_le _, Nat.zero_le _, ⟨by simp, by simp⟩⟩ (by show 2 ≤ 1000; decide) (PJ_len n m)).mono ?_
    rintro e w' ⟨t, s1, S, hd, rfl, ho, hx, -⟩
    have hz := hd.else_ (by decide) (by decide) (by omega) (by omega) (PJ_own n m _)
    rw [PJ_over] at hz
    obtain ⟨rfl, rfl⟩ := hz
    obtain ⟨A, b, rfl⟩ := own_slice ho
    exact ⟨A, _, b, rfl, hx.less (by simp)⟩
  have C6 : Hid (∀ w g, DX VD W w [] g (PJ n m) → Calls Tryz.prog 29 #[.pointer (some ⟨g, 0, none⟩)] w fun e w' => ∃ A b, e = .returned (.slice A 0 b) ∧ DX VD W w' [] g (PJ n m)) := fun w g h => by
    have h0 := h
    obtain ⟨_, ⟨F, b, _⟩, _⟩ := h0
    refine (L.arcs (by show 2 ≤ 1000; decide) b).mono ?_
    rintro e w' ⟨l, A, b, rfl, -, ha, hk, hb⟩
    have : l = [] := List.eq_nil_iff_forall_not_mem.2 fun p hp => by
      have h1 := ha.known hp (ha.lt p hp).1 (ha.first hp)
      rw [hk _ (ha.lt p hp).1, PJ_own] at h1
      cases h1
    subst this
    exact ⟨A, b, rfl, h.below L hb⟩
  have C7 : Hid (∀ w g, DX VD W w [] g (PJ n m) → Calls Tryz.prog 25 #[.pointer (some ⟨g, 0, none⟩), .int .i64 n] w fun e w' => e = .returned (.int .i64 10) ∧ Below W.heap.size W w') := fun w g h => by
    refine (h.lose L n hn (by show 2 ≤ 1000; decide) (PJ_len n m)).mono ?_
    rintro e w' (⟨z, -⟩ | ⟨-, rfl, h1, -⟩)
    · exact absurd z (by show ¬ false = true; decide)
    · exact ⟨rfl, h1.base⟩
  go_enter Tryz.func10, Tryz.ntmps10
  go_wp2_with (first
    | (go_at_call 11; (with_reducible refine (CA.out _).mono ?_); rintro e w1 ⟨rfl, h1⟩; have H1 := Lib.hid h1; clear h1)
    | (go_at_call 12; (with_reducible refine (C0.out _ H1.out).mono ?_); rintro e w2 ⟨g, rfl, x2⟩; have X2 := Lib.hid x2; clear x2)
    | (go_at_call 13; (with_reducible refine (C1.out _ _ X2.out).mono ?_); rintro e w3 ⟨rfl, x3⟩; have X3 := Lib.hid x3; clear x3)
    | (go_at_call 20; (with_reducible refine (C2.out _ _ X3.out).mono ?_); rintro e w4 ⟨S4, ep4, rfl, x4⟩; have X4 := Lib.hid x4; clear x4)
    | (go_at_call 25; (with_reducible refine (C3.out _ _ X4.out).mono ?_); rintro e w5 ⟨rfl, x5⟩; have X5 := Lib.hid x5; clear x5))
  clear CA C0 C1 C2 C3
  go_loopg [11] (m + 1) (fun gh s11 wx => ∃ i : Nat, i + gh = m + 1 ∧ i ≤ m ∧ s11 = .int .i64 (i : Nat) ∧ Hid (DX VD W wx [] g (PJ n i)))
  case atStart => exact ⟨0, by omega, by omega, rfl, X5.out⟩
  case round =>
    obtain ⟨i, hig, hi, rfl, HX⟩ := hrel
    by_cases hlt : i < m
    · have i1 : (i : Int) < (m : Int) := by omega
      have ct := Lib.hid (C4.out _ g i (by omega) HX.out)
      go_wp2_with (go_at_call 31; (with_reducible refine (ct.out).mono ?_); rintro e w6 ⟨rfl, x6⟩; have X6 := Lib.hid x6; clear x6)
      go_roundg (gk - 1)
      case measure => omega
      case rel => exact ⟨i + 1, by omega, by omega, by go_num, X6⟩
    · obtain rfl : i = m := by omega
      by_cases h40 : i < 40
      · have i4 : (i : Int) < 40 := by omega
        have e4 : (if i < 40 then n else -1) = n := if_pos h40
        rw [e4] at C5
        go_wp2_with (go_at_call 14; (with_reducible refine (C5.out _ _ HX.out).mono ?_); rintro e w7 ⟨A7, a7, b7, rfl, x7⟩; have X7 := Lib.hid (x7.below L ((Below.refl _ _).alloc (Nat.le_refl _) (.cells #[.int .i64 8, .string ⟨#[]⟩, .slice A7 a7 b7, .bool false, .string ⟨#[]⟩, .int .i64 n] 34))); clear x7)
        go_ret
        exact ⟨by simp, X7.out.base⟩
      · have i4 : ¬ (i : Int) < 40 := by omega
        have e4 : (if i < 40 then n else -1) = -1 := if_neg h40
        rw [e4] at C5
        go_wp2_with (first
          | (go_at_call 14; (with_reducible refine (C5.out _ _ HX.out).mono ?_); rintro e w7 ⟨A7, a7, b7, rfl, x7⟩; have X7 := Lib.hid (x7.below L ((Below.refl _ _).alloc (Nat.le_refl _) (.cells #[.int .i64 8, .string ⟨#[]⟩, .slice A7 a7 b7, .bool false, .string ⟨#[]⟩, .int .i64 (-1)] 34))); clear x7)
          | (go_at_call 29; (with_reducible refine (C6.out _ _ X7.out).mono ?_); rintro e w8 ⟨A8, b8, rfl, x8⟩; have X8 := Lib.hid x8; clear x8)
          | (go_at_call 25; (with_reducible refine (C7.out _ _ X8.out).mono ?_); rintro e w9 ⟨rfl, x9⟩))
        go_ret
        exact ⟨rfl, x9⟩
end
end Go.Proofs.YthgndgoljchnfaaGreat
