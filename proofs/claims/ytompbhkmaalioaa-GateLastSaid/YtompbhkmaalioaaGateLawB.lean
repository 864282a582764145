/-
  Of two pointers over a point the later one counts; when it is gone, the elder one, if that is still there (GateLast).
-/
import Derived.Test.YtompbhkmaalioaaGateLawA
namespace Go.Proofs.Ytompbhkmaalioaa
open Go.RowKit

def lastS1 (f1 t1 k : Nat) : GS := ⟨false, 0, 0, oneL f1 t1 1 k, k⟩
theorem lastS1_tick (f1 t1 k : Nat) : (lastS1 f1 t1 k).tick = lastS1 f1 t1 (k + 1) := by
  unfold lastS1 GS.tick
  rw [oneL_tick]
def lastS2 (f1 t1 f2 t2 m j : Nat) : GS := ⟨false, 0, 0, oneL f1 t1 1 (m + j) ++ oneL f2 t2 2 j, m + j⟩
theorem lastS2_tick (f1 t1 f2 t2 m j : Nat) : (lastS2 f1 t1 f2 t2 m j).tick = lastS2 f1 t1 f2 t2 m (j + 1) := by
  unfold lastS2 GS.tick
  rw [agedL_append, oneL_tick, oneL_tick]
  rfl
theorem overL_one (f t : Nat) (n : Int) (k x : Nat) : overL (oneL f t n k) x = if k < 40 ∧ inB f t x = true then some n else none := by
  unfold oneL
  by_cases h : k < 40
  · rw [if_pos h]
    have := overL_snoc [] ⟨f, t, n, k⟩ x
    rw [List.nil_append] at this
    rw [this, overL_nil]
    simp [h]
  · rw [if_neg h, overL_nil, if_neg (fun z => h z.1)]
theorem over_two (f1 t1 f2 t2 m j x : Nat) : overL (lastS2 f1 t1 f2 t2 m j).l x = if j < 40 ∧ inB f2 t2 x = true then some 2 else if m + j < 40 ∧ inB f1 t1 x = true then some 1 else none := by
  show overL (oneL f1 t1 1 (m + j) ++ oneL f2 t2 2 j) x = _
  by_cases h : j < 40
  · rw [show oneL f2 t2 2 j = [⟨f2, t2, 2, j⟩] from if_pos h, overL_snoc, overL_one]
    by_cases hb : inB f2 t2 x = true
    · rw [if_pos hb, if_pos ⟨h, hb⟩]
    · rw [if_neg hb]
      exact (if_neg (c := j < 40 ∧ inB f2 t2 x = true) (fun z => hb z.2)).symm
  · rw [show oneL f2 t2 2 j = [] from if_neg h, List.append_nil, overL_one, if_neg (fun z : j < 40 ∧ _ => h z.1)]
def lastO (m1 m2 : Nat) (ia ib : Bool) : Option Int := if m2 < 40 ∧ ib = true then some 2 else if m1 + m2 < 40 ∧ ia = true then some 1 else none
set_option maxRecDepth 20000 in
set_option maxHeartbeats 8000000 in
theorem gateLast_any {VG : World → Nat → GS → List Nat → Prop} (L : GateLaws VG) (f1 t1 f2 t2 x : Nat) (be la : Int) (W : World) (hf1 : f1 < 18446744073709551616) (ht1 : t1 < 18446744073709551616) (hf2 : f2 < 18446744073709551616) (ht2 : t2 < 18446744073709551616) (hx : x < 18446744073709551616) :
    Calls Try.prog 4 #[.agg #[.int .u64 (f1 : Nat), .int .u64 (t1 : Nat)], .agg #[.int .u64 (f2 : Nat), .int .u64 (t2 : Nat)], .int .u64 (x : Nat), .int .i64 be, .int .i64 la] W fun e w' => e = .returned (.bool true) ∧ Below W.heap.size W w' := by
  have CA := Lib.hid (gateAlive_any L)
  have B2 : Hid (Below W.heap.size W ((W.alloc (.cells #[.int .u64 (f1 : Nat), .int .u64 (t1 : Nat)] 27)).alloc (.cells #[.int .u64 (f2 : Nat), .int .u64 (t2 : Nat)] 27))) := ((Below.refl _ _).alloc (Nat.le_refl _) _).alloc (by simp) _
  by_cases c1 : be < 0
  · have d1 : decide (be < 0) = true := decide_eq_true c1
    go_enter Try.func4, Try.ntmps4
    go_wp2_with (go_at_call 7; (with_reducible refine (CA.out _).mono ?_); rintro e w1 ⟨rfl, h1⟩)
    go_ret
    exact ⟨rfl, acc B2.out h1⟩
  have d1 : decide (be < 0) = false := decide_eq_false c1
  by_cases c2 : 50 < be
  · have d2 : decide (50 < be) = true := decide_eq_true c2
    go_enter Try.func4, Try.ntmps4
    go_wp2_with (go_at_call 7; (with_reducible refine (CA.out _).mono ?_); rintro e w1 ⟨rfl, h1⟩)
    go_ret
    exact ⟨rfl, acc B2.out h1⟩
  have d2 : decide (50 < be) = false := decide_eq_false c2
  by_cases c3 : la < 0
  · have d3 : decide (la < 0) = true := decide_eq_true c3
    go_enter Try.func4, Try.ntmps4
    go_wp2_with (go_at_call 7; (with_reducible refine (CA.out _).mono ?_); rintro e w1 ⟨rfl, h1⟩)
    go_ret
    exact ⟨rfl, acc B2.out h1⟩
  have d3 : decide (la < 0) = false := decide_eq_false c3
  by_cases c4 : 50 < la
  · have d4 : decide (50 < la) = true := decide_eq_true c4
    go_enter Try.func4, Try.ntmps4
    go_wp2_with (go_at_call 7; (with_reducible refine (CA.out _).mono ?_); rintro e w1 ⟨rfl, h1⟩)
    go_ret
    exact ⟨rfl, acc B2.out h1⟩
  have d4 : decide (50 < la) = false := decide_eq_false c4
  obtain ⟨m1, rfl⟩ := Int.eq_ofNat_of_zero_le (Int.not_lt.1 c1)
  obtain ⟨m2, rfl⟩ := Int.eq_ofNat_of_zero_le (Int.not_lt.1 c3)
  obtain ⟨qa, hqa⟩ : ∃ q, W.heap.size = q := ⟨_, rfl⟩
  obtain ⟨qb, hqb⟩ : ∃ q, W.heap.size + 1 = q := ⟨_, rfl⟩
  obtain ⟨ia, hia⟩ : ∃ b, inB f1 t1 x = b := ⟨_, rfl⟩
  obtain ⟨ib, hib⟩ : ∃ b, inB f2 t2 x = b := ⟨_, rfl⟩
  have CIA : Hid (∀ w, Calls Try.prog 20 #[.agg #[.int .u64 (f1 : Nat), .int .u64 (t1 : Nat)], .int .u64 (x : Nat)] w fun e w' => e = .returned (.bool ia) ∧ Below w.heap.size w w') := fun w => by rw [← hia]; exact in_any f1 t1 x w hf1 ht1 hx
  have CIB : Hid (∀ w, Calls Try.prog 20 #[.agg #[.int .u64 (f2 : Nat), .int .u64 (t2 : Nat)], .int .u64 (x : Nat)] w fun e w' => e = .returned (.bool ib) ∧ Below w.heap.size w w') := fun w => by rw [← hib]; exact in_any f2 t2 x w hf2 ht2 hx
  have CP1 : Hid (∀ w P g, GX VG W w P g G0 → Calls Try.prog 10 #[.pointer (some ⟨g, 0, none⟩), .agg #[.int .u64 (f1 : Nat), .int .u64 (t1 : Nat)], .int .i64 1] w (GXPost VG W w P g (.tuple #[]) (lastS1 f1 t1 0))) := fun w P g h => h.point L f1 t1 1 hf1 ht1 (by decide) (by decide) (by decide)
  have CP2 : Hid (∀ w P g, GX VG W w P g (lastS1 f1 t1 m1) → Calls Try.prog 10 #[.pointer (some ⟨g, 0, none⟩), .agg #[.int .u64 (f2 : Nat), .int .u64 (t2 : Nat)], .int .i64 2] w (GXPost VG W w P g (.tuple #[]) (lastS2 f1 t1 f2 t2 m1 0))) := fun w P g h =>
    h.point L f2 t2 2 hf2 ht2 (by decide) (by decide) (by have := oneL_len f1 t1 1 m1; show (oneL f1 t1 1 m1).length ≤ 1000; omega)
  have CT1 : Hid (∀ w P g k, k < m1 → GX VG W w P g (lastS1 f1 t1 k) → Calls Try.prog 12 #[.pointer (some ⟨g, 0, none⟩)] w (GXPost VG W w P g (.tuple #[]) (lastS1 f1 t1 (k + 1)))) := fun w P g k hk h => by
    have z := h.tick L (by have := oneL_len f1 t1 1 k; show (oneL f1 t1 1 k).length ≤ 1001; omega) (by show k ≤ 1000000; omega)
    rwa [lastS1_tick] at z
  have hl2 : ∀ j, (oneL f1 t1 1 (m1 + j) ++ oneL f2 t2 2 j).length ≤ 1001 := fun j => by
    have := oneL_len f1 t1 1 (m1 + j)
    have := oneL_len f2 t2 2 j
    rw [List.length_append]
    omega
  have CT2 : Hid (∀ w P g k, k < m2 → GX VG W w P g (lastS2 f1 t1 f2 t2 m1 k) → Calls Try.prog 12 #[.pointer (some ⟨g, 0, none⟩)] w (GXPost VG W w P g (.tuple #[]) (lastS2 f1 t1 f2 t2 m1 (k + 1)))) := fun w P g k hk h => by
    have z := h.tick L (hl2 k) (by show m1 + k ≤ 1000000; omega)
    rwa [lastS2_tick] at z
  have CWH : Hid (∀ w P g, GX VG W w P g (lastS2 f1 t1 f2 t2 m1 m2) → Calls Try.prog 16 #[.pointer (some ⟨g, 0, none⟩), .int .u64 (x : Nat)] w fun e w' => e = .returned (whereV (lastO m1 m2 ia ib)) ∧ Below w.heap.size w w') := fun w P g h => by
    have z := h.where_ L x hx (hl2 m2)
    rwa [over_two, hia, hib] at z
  generalize lastS1 f1 t1 = S1 at *
  generalize lastS2 f1 t1 f2 t2 m1 = S2 at *
  unfold GXPost at CP1 CP2 CT1 CT2
  have CB : Hid (∀ w w1 P g s, GX VG W w P g s → Below w.heap.size w w1 → GX VG W w1 P g s) := fun w w1 P g s h hb => h.below L hb
  have CG : Hid (∀ w P, Below W.heap.size W w → (∀ q ∈ P, q < w.heap.size) → GX VG W (w.alloc (.cells GZ 31)) P w.heap.size G0) := fun w P h hP => GX.zero L h hP
  have HQA := Lib.hid hqa
  have HQB := Lib.hid hqb
  clear hia hib hf1 ht1 hf2 ht2 hx hqa hqb hl2 L
  have BA2 : Hid (ArcBox ((W.alloc (.cells #[.int .u64 (f1 : Nat), .int .u64 (t1 : Nat)] 27)).alloc (.cells #[.int .u64 (f2 : Nat), .int .u64 (t2 : Nat)] 27)) qa f1 t1) := by
    rw [← HQA.out]
    exact (arcBox_new W f1 t1).below ((Below.refl _ _).alloc (Nat.le_refl _) _)
  have BB2 : Hid (ArcBox ((W.alloc (.cells #[.int .u64 (f1 : Nat), .int .u64 (t1 : Nat)] 27)).alloc (.cells #[.int .u64 (f2 : Nat), .int .u64 (t2 : Nat)] 27)) qb f2 t2) := by
    rw [← HQB.out]
    have z := arcBox_new (W.alloc (.cells #[.int .u64 (f1 : Nat), .int .u64 (t1 : Nat)] 27)) f2 t2
    exact Lib.hid (by simpa using z)
  go_enter Try.func4, Try.ntmps4
  go_upto_region 3 with (go_at_call 7; (with_reducible refine (CA.out _).mono ?_); rintro e w3 ⟨rfl, h3⟩; have B3 := Lib.hid (acc B2.out h3); have BA3 := Lib.hid (BA2.out.below h3); have BB3 := Lib.hid (BB2.out.below h3); clear h3)
  have K0 : Hid (GX VG W (w3.alloc (.cells GZ 31)) [qa, qb] w3.heap.size G0) := CG.out _ _ B3.out (fun q hq => by
    simp at hq
    rcases hq with rfl | rfl
    · exact BA3.out.lt
    · exact BB3.out.lt)
  have BA4 := Lib.hid (BA3.out.below ((Below.refl _ _).alloc (Nat.le_refl _) (.cells GZ 31)))
  have BB4 := Lib.hid (BB3.out.below ((Below.refl _ _).alloc (Nat.le_refl _) (.cells GZ 31)))
  go_upto_region 4 with fail
  obtain ⟨w4, hw4⟩ : ∃ w, w3.alloc (.cells GZ 31) = w := ⟨_, rfl⟩
  obtain ⟨gb, hgb⟩ : ∃ gb, w3.heap.size = gb := ⟨_, rfl⟩
  rw [hw4, hgb] at K0
  rw [hw4] at BA4 BB4
  rw [hw4, hgb, HQB.out, HQA.out]
  have S4 := Lib.hid (And.intro BA4.out BB4.out)
  unfold ArcBox at S4
  clear hw4 hgb BA3 BB3 B3 BA2 BB2 B2 BA4 BB4
  obtain ⟨⟨a0, a1⟩, -⟩ := S4.out
  go_wp2_with (go_at_call 10; (with_reducible refine (CP1.out _ _ _ K0.out).mono ?_); rintro e w5 ⟨rfl, h5, k5⟩; have K5 := Lib.hid h5; have S5 := boxes S4 k5; clear h5 k5)
  clear a0 a1 S4 K0
  go_loopg [12] (m1 + 1) (fun gh s12 wx => ∃ (k : Nat), k + gh = m1 + 1 ∧ k ≤ m1 ∧ s12 = .int .i64 (k : Nat) ∧ Hid (GX VG W wx [qa, qb] gb (S1 k)) ∧ Hid ((wx.cell? ⟨qa, 0, none⟩ = some (.int .u64 (f1 : Nat)) ∧ wx.cell? ⟨qa, 1, none⟩ = some (.int .u64 (t1 : Nat))) ∧ (wx.cell? ⟨qb, 0, none⟩ = some (.int .u64 (f2 : Nat)) ∧ wx.cell? ⟨qb, 1, none⟩ = some (.int .u64 (t2 : Nat)))))
  case atStart => exact ⟨0, by omega, by omega, rfl, K5, S5⟩
  case round =>
    obtain ⟨k, hkg, hk, rfl, HK, HS⟩ := hrel
    by_cases hlt : k < m1
    · have i1 : (k : Int) < (m1 : Int) := by omega
      have zk : IntKind.i64.wrap ((k : Int) + 1) = (k : Int) + 1 := by rw [IntKind.wrap_i64]; omega
      go_wp2_with (go_at_call 12; (with_reducible refine (CT1.out _ _ _ k hlt HK.out).mono ?_); rintro e w6 ⟨rfl, h6, k6⟩; have K6 := Lib.hid h6; have S6 := boxes HS k6; clear h6 k6)
      go_roundg (gk - 1)
      case measure => omega
      case rel => exact ⟨k + 1, by omega, by omega, by go_num, K6, S6⟩
    · obtain rfl : m1 = k := by omega
      obtain ⟨-, ⟨a0, a1⟩⟩ := HS.out
      clear K5 S5
      go_wp2_with (go_at_call 10; (with_reducible refine (CP2.out _ _ _ HK.out).mono ?_); rintro e w7 ⟨rfl, h7, k7⟩; have K7 := Lib.hid h7; have S7 := boxes HS k7; clear h7 k7)
      clear a0 a1
      go_loopg [13] (m2 + 1) (fun gh s13 wx => ∃ (k : Nat), k + gh = m2 + 1 ∧ k ≤ m2 ∧ s13 = .int .i64 (k : Nat) ∧ Hid (GX VG W wx [qa, qb] gb (S2 k)) ∧ Hid ((wx.cell? ⟨qa, 0, none⟩ = some (.int .u64 (f1 : Nat)) ∧ wx.cell? ⟨qa, 1, none⟩ = some (.int .u64 (t1 : Nat))) ∧ (wx.cell? ⟨qb, 0, none⟩ = some (.int .u64 (f2 : Nat)) ∧ wx.cell? ⟨qb, 1, none⟩ = some (.int .u64 (t2 : Nat)))))
      case atStart => exact ⟨0, by omega, by omega, rfl, K7, S7⟩
      case round =>
        obtain ⟨j, hjg, hj, rfl, HJ, HT⟩ := hrel
        by_cases hlj : j < m2
        · have i1 : (j : Int) < (m2 : Int) := by omega
          have zk : IntKind.i64.wrap ((j : Int) + 1) = (j : Int) + 1 := by rw [IntKind.wrap_i64]; omega
          go_wp2_with (go_at_call 12; (with_reducible refine (CT2.out _ _ _ j hlj HJ.out).mono ?_); rintro e w6 ⟨rfl, h6, k6⟩; have K6 := Lib.hid h6; have S6 := boxes HT k6; clear h6 k6)
          go_roundg (gk - 1)
          case measure => omega
          case rel => exact ⟨j + 1, by omega, by omega, by go_num, K6, S6⟩
        · obtain rfl : m2 = j := by omega
          clear K7 S7 HK HS
          have zs : IntKind.i64.wrap ((m1 : Int) + (m2 : Int)) = (m1 : Int) + (m2 : Int) := by rw [IntKind.wrap_i64]; omega
          have hcase : (lastO m1 m2 ia ib = some (2 : Int) ∧ ib = true ∧ decide ((m2 : Int) < 40) = true) ∨
              (lastO m1 m2 ia ib = some (1 : Int) ∧ ib = false ∧ ia = true ∧ decide ((m1 : Int) + (m2 : Int) < 40) = true) ∨
              (lastO m1 m2 ia ib = (none : Option Int) ∧ (ib = false ∨ ib = true ∧ decide ((m2 : Int) < 40) = false) ∧ (ia = false ∨ ia = true ∧ decide ((m1 : Int) + (m2 : Int) < 40) = false)) := by
            unfold lastO
            by_cases h1 : m2 < 40 ∧ ib = true
            · exact .inl ⟨if_pos h1, h1.2, decide_eq_true (by omega)⟩
            · by_cases h2 : m1 + m2 < 40 ∧ ia = true
              · refine .inr (.inl ⟨by rw [if_neg h1, if_pos h2], ?_, h2.2, decide_eq_true (by omega)⟩)
                cases hb : ib with
                | false => rfl
                | true => exact absurd ⟨by omega, hb⟩ h1
              · refine .inr (.inr ⟨by rw [if_neg h1, if_neg h2], ?_, ?_⟩)
                · cases hb : ib with
                  | false => exact .inl rfl
                  | true => exact .inr ⟨rfl, decide_eq_false (fun z => h1 ⟨by omega, hb⟩)⟩
                · cases hb : ia with
                  | false => exact .inl rfl
                  | true => exact .inr ⟨rfl, decide_eq_false (fun z => h2 ⟨by omega, hb⟩)⟩
          generalize lastO m1 m2 ia ib = o at *
          obtain ⟨⟨a0, a1⟩, ⟨b0, b1⟩⟩ := HT.out
          rcases hcase with ⟨rfl, rfl, e1⟩ | ⟨rfl, rfl, rfl, e1⟩ | ⟨rfl, (rfl | ⟨rfl, e1⟩), (rfl | ⟨rfl, e2⟩)⟩
          all_goals
            go_wp2_with (first
              | (go_at_call 16; (with_reducible refine (CWH.out _ _ _ HJ.out).mono ?_); rintro e w8 ⟨rfl, h8⟩; have K8 := Lib.hid (CB.out _ _ _ _ _ HJ.out h8); have S8 := boxes HT (Kept.below h8); obtain ⟨⟨a0, a1⟩, ⟨b0, b1⟩⟩ := S8.out; unfold whereV; clear h8)
              | (go_at_call 20; (with_reducible refine (CIB.out _).mono ?_); rintro e w9 ⟨rfl, h9⟩; have K9 := Lib.hid (CB.out _ _ _ _ _ K8.out h9); have S9 := boxes S8 (Kept.below h9); obtain ⟨⟨a0, a1⟩, ⟨b0, b1⟩⟩ := S9.out; clear h9)
              | (go_at_call 20; (with_reducible refine (CIA.out _).mono ?_); rintro e w10 ⟨rfl, h10⟩; have K10 := Lib.hid (CB.out _ _ _ _ _ K9.out h10); clear h10))
            go_ret
            first
              | exact ⟨rfl, K10.out.base⟩
              | exact ⟨rfl, K9.out.base⟩
end Go.Proofs.Ytompbhkmaalioaa
