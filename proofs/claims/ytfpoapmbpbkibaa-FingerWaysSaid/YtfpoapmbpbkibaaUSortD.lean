/-
  How many bits a number has (the kit's contract of math/bits.Len, laid at this program in plain words), and the library's nextPowerOfTwo and xorshift.
  The library's breakPatterns at numbers: it only moves what lies within.
-/
import Derived.Test.YtfpoapmbpbkibaaUSortA
import Derived.Test.YtfpoapmbpbkibaaWayKit
import Derived.Shelf.Small.Bits
import Derived.Lib.ItoaNum
import Derived.Laws.Bits64
import Derived.Laws.Bits64b
import Derived.Deep.CutBlock
namespace Go.Proofs.Ytfpoapmbpbkibaa
open Go.RowKit Go.Sort
def lenL_ren : Go.Shelf.Ren := ⟨fun | 125 => 75 | 128 => 89 | 129 => 90 | n => n, fun | 3 => 3 | 4 => 4 | 5 => 5 | 9 => 9 | 46 => 56 | 51 => 124 | 53 => 22 | n => n, fun | n => n⟩
theorem lenL : Go.Proofs.Lays.n125 Try.prog lenL_ren :=
  { mixed := by kernel_rfl
    f125 := Try.func75.trans (congrArg some (by kernel_rfl))
    f128 := Try.func89.trans (congrArg some (by kernel_rfl))
    f129 := Try.func90.trans (congrArg some (by kernel_rfl))
    t3 := Try.underlying3
    a3 := Try.isAgg3
    z3 := Try.sizeOf3
    v3 := Try.zeroValue3
    t4 := Try.underlying4
    a4 := Try.isAgg4
    z4 := Try.sizeOf4
    v4 := Try.zeroValue4
    t5 := Try.underlying5
    a5 := Try.isAgg5
    z5 := Try.sizeOf5
    v5 := Try.zeroValue5
    t9 := Try.underlying9
    a9 := Try.isAgg9
    z9 := Try.sizeOf9
    v9 := Try.zeroValue9
    t46 := Try.underlying56
    a46 := Try.isAgg56
    z46 := Try.sizeOf56
    v46 := Try.zeroValue56
    t51 := Try.underlying124
    a51 := Try.isAgg124
    z51 := Try.sizeOf124
    v51 := Try.zeroValue124
    t53 := Try.underlying22
    a53 := Try.isAgg22
    z53 := Try.sizeOf22
    v53 := Try.zeroValue22 }
theorem uLen_any (x : Nat) (h : x < 18446744073709551616) (W : World) : Calls Try.prog 75 #[.int .u64 x] W fun e w' => e = .returned (.int .i64 (Lib.bitLen x)) ∧ w' = W := by
  have hc := Any.bits_Len lenL (x : Int) W (by omega) (by omega)
  change Calls Try.prog 75 _ _ _ at hc
  rwa [Int.toNat_natCast] at hc
theorem bitLen_two {x : Nat} (h0 : x ≠ 0) (h : x < 1000001) : Lib.bitLen x ≤ 62 ∧ x < 2 ^ Lib.bitLen x ∧ 2 ^ Lib.bitLen x ≤ 2 * x := by
  obtain ⟨h1, h2, h3⟩ := Lib.bitLenAux_bounds 64 x (Nat.lt_of_lt_of_le h (by decide)) h0
  have h4 : Lib.bitLen x ≤ 20 := Lib.bitLen_le x 20 (by decide) (Nat.lt_of_lt_of_le h (by decide))
  refine ⟨by omega, h3, ?_⟩
  show 2 ^ Lib.bitLenAux 64 x ≤ 2 * x
  obtain ⟨k, hk⟩ : ∃ k, Lib.bitLenAux 64 x = k + 1 := ⟨Lib.bitLenAux 64 x - 1, by omega⟩
  rw [hk] at h2 ⊢
  rw [Nat.pow_succ]
  simp only [Nat.add_sub_cancel] at h2
  omega
theorem wrap_pow {k : Nat} (h : k ≤ 62) : IntKind.u64.wrap ((2 : Int) ^ k) = ((2 ^ k : Nat) : Int) := by
  have h1 : 2 ^ k ≤ 2 ^ 62 := Nat.pow_le_pow_right (by decide) h
  have h2 : (2 : Nat) ^ 62 = 4611686018427387904 := by decide
  rw [IntKind.wrap_u64]
  have e : (2 : Int) ^ k = ((2 ^ k : Nat) : Int) := by simp
  rw [e]
  rw [h2] at h1
  generalize 2 ^ k = n at *
  omega
def PowPost (n : Nat) (W : World) (e : Ending) (w' : World) : Prop := ∃ M : Nat, e = .returned (.int .u64 M) ∧ n < M ∧ M ≤ 2 * n ∧ w' = W
set_option maxHeartbeats 1000000 in
theorem uPow_any (n : Nat) (h0 : n ≠ 0) (h : n < 1000001) (W : World) : Calls Try.prog 94 #[.int .i64 n] W (PowPost n W) := by
  obtain ⟨h1, h2, h3⟩ := bitLen_two h0 h
  obtain ⟨k, hk⟩ : ∃ k, Lib.bitLen n = k := ⟨_, rfl⟩
  have hl := uLen_any n (by omega)
  rw [hk] at h1 h2 h3 hl
  have HL := Lib.hid hl
  have hp := wrap_pow h1
  obtain ⟨M, hM⟩ : ∃ M, 2 ^ k = M := ⟨_, rfl⟩
  rw [hM] at hp h2 h3
  have wr : IntKind.u64.wrap (n : Int) = n := by rw [IntKind.wrap_u64]; omega
  have k1 : (0 : Int) ≤ (k : Int) := by omega
  clear hk hl hM
  go_enter Try.func94, Try.ntmps94
  go_wp2_with (go_at_call 75; (with_reducible refine (HL.out _).mono ?_); rintro e w1 ⟨rfl, rfl⟩)
  go_ret
  exact ⟨M, rfl, h2, h3, rfl⟩
theorem xor_on (a b : Nat) (ha : a < 18446744073709551616) (hb : b < 18446744073709551616) : ∃ c : Nat, c < 18446744073709551616 ∧ bits .xor .u64 (a : Int) (b : Int) = (c : Int) :=
  ⟨a ^^^ b, Nat.xor_lt_two_pow (n := 64) ha hb, bits_xor_u64_nat a b ha hb⟩
def NextPost (s : Nat) (W : World) (e : Ending) (w' : World) : Prop := ∃ Y : Nat, e = .returned (.int .u64 Y) ∧ Y < 18446744073709551616 ∧ Var w' s (.int .u64 Y) ∧ Touch [s] W w'
set_option maxHeartbeats 2000000 in
set_option maxRecDepth 100000 in
theorem uNext_any {s X : Nat} {W : World} (hv : Var W s (.int .u64 X)) (hX : X < 18446744073709551616) : Calls Try.prog 95 #[.pointer (some ⟨s, 0, none⟩)] W (NextPost s W) := by
  obtain ⟨A, lA, hA⟩ := xor_on X (X * 8192 % 18446744073709551616) hX (by omega)
  obtain ⟨E, lE, hE⟩ := xor_on A (A / 128) lA (by omega)
  obtain ⟨C, lC, hC⟩ := xor_on E (E * 131072 % 18446744073709551616) lE (by omega)
  have e1 : bits .xor .u64 (X : Int) (IntKind.u64.wrap ((X : Int) * 8192)) = (A : Int) := by rw [← hA, IntKind.wrap_u64]; simp
  have e2 : bits .xor .u64 (A : Int) ((A : Int) / 128) = (E : Int) := by rw [← hE]; simp
  have e3 : bits .xor .u64 (E : Int) (IntKind.u64.wrap ((E : Int) * 131072)) = (C : Int) := by rw [← hC, IntKind.wrap_u64]; simp
  clear hA hE hC
  have c0 := hv.val
  have f0 := hv.free
  have HV := Lib.hid hv
  clear hv
  go_enter Try.func95, Try.ntmps95
  go_wp2
  go_region
  all_goals go_wp2
  obtain ⟨w1, hw1⟩ : ∃ w, (W.setCell ⟨s, 0, none⟩ (.int .u64 A)).drew = w := ⟨_, rfl⟩
  have V1 : Var w1 s (.int .u64 A) := by rw [← hw1]; exact (HV.out.set _).touch (Touch.refl (F := []) _ |>.drew) (by simp)
  have T1 : Hid (Touch [s] W w1) := by rw [← hw1]; exact ((Touch.refl _ _).set (.inl (by simp)) _).drew
  rw [hw1]
  have c1 := V1.val
  have f1 := V1.free
  have HV1 := Lib.hid V1
  clear hw1 V1 c0 f0
  go_region
  all_goals go_wp2
  obtain ⟨w2, hw2⟩ : ∃ w, (w1.setCell ⟨s, 0, none⟩ (.int .u64 E)).drew = w := ⟨_, rfl⟩
  have V2 : Var w2 s (.int .u64 E) := by rw [← hw2]; exact (HV1.out.set _).touch (Touch.refl (F := []) _ |>.drew) (by simp)
  have T2 : Hid (Touch [s] W w2) := by rw [← hw2]; exact (T1.out.set (.inl (by simp)) _).drew
  rw [hw2]
  have c2 := V2.val
  have f2 := V2.free
  have HV2 := Lib.hid V2
  clear hw2 V2 c1 f1
  go_region
  all_goals go_wp2
  go_ret
  exact ⟨C, rfl, lC, (HV2.out.set _).touch (Touch.refl (F := []) _ |>.drew) (by simp), (T2.out.set (.inl (by simp)) _).drew⟩
end Go.Proofs.Ytfpoapmbpbkibaa
namespace Go.Proofs.Ytfpoapmbpbkibaa
open Go.RowKit Go.Sort
def MovePost (B g c : Nat) (d : Array Int) (W : World) (a b : Nat) (e : Ending) (w' : World) : Prop :=
  ∃ E : Array Int, e = .returned (.tuple #[]) ∧ PermIn a b d E ∧ UR B W g c E w'
set_option maxHeartbeats 4000000 in
set_option maxRecDepth 100000 in
theorem uBreak_any {B g c a b n : Nat} {d : Array Int} {W : World} (h : UR B W g c d W) (hn : d.size = n) (hlen : n ≤ 1000000) (hab : a + 12 < b) (hb : b ≤ n) :
    Calls Try.prog 83 #[.slice (some ⟨g, 0, none⟩) n c, .int .i64 a, .int .i64 b] W (MovePost B g c d W a b) := by
  have H := Lib.hid h
  have HN := Lib.hid hn
  obtain ⟨s, hs⟩ : ∃ s, W.heap.size = s := ⟨_, rfl⟩
  have hgs : g < s := by rw [← hs]; exact h.old
  have CP : Hid (∀ (l : Nat) w, l ≠ 0 → l < 1000001 → Calls Try.prog 94 #[.int .i64 l] w (PowPost l w)) := fun l w h0 h1 => uPow_any l h0 h1 w
  have CN : Hid (∀ (X : Nat) w, Var w s (.int .u64 X) → X < 18446744073709551616 → Calls Try.prog 95 #[.pointer (some ⟨s, 0, none⟩)] w (NextPost s w)) := fun X w hv hx => uNext_any hv hx
  obtain ⟨l, hl⟩ : ∃ l, b - a = l := ⟨_, rfl⟩
  have zl : IntKind.i64.wrap ((b : Int) - (a : Int)) = (l : Int) := by rw [IntKind.wrap_i64]; omega
  have hal : a + l = b := by omega
  have l8 : (l : Int) ≥ 8 := by omega
  have zu : IntKind.u64.wrap (l : Int) = (l : Int) := by rw [IntKind.wrap_u64]; omega
  clear h hn hl
  go_enter Try.func83, Try.ntmps83
  go_upto_region 3 with fail
  obtain ⟨W0, hW0⟩ : ∃ W0, W0 = W.alloc (.cells #[.int .u64 l] 128) := ⟨_, rfl⟩
  have V0 : Hid (Var W0 s (.int .u64 l)) := by rw [hW0, ← hs]; exact Var.new _ _ _
  have H0 : Hid (UR B W g c d W0) := by rw [hW0]; exact H.out.past (F := []) ((Touch.refl _ _).alloc _) (by simp)
  have S0 : Hid (W.heap.size = s) := hs
  rw [← hW0]
  clear hW0 hs
  go_wp2_with (go_at_call 94; (with_reducible refine (CP.out l _ (by omega) (by omega)).mono ?_); rintro e w1 ⟨M, rfl, hM1, hM2, rfl⟩)
  obtain ⟨i0, hi0⟩ : ∃ i0 : Nat, (a : Int) + (l : Int) / 4 * 2 - 1 = (i0 : Int) := ⟨a + l / 4 * 2 - 1, by omega⟩
  rw [hi0]
  have hi3 : i0 + 2 < b := by omega
  have hi4 : a ≤ i0 := by omega
  go_loopg [9] 3 (fun k s9 wx => ∃ (i X : Nat) (D : Array Int), s9 = .int .i64 (i : Nat) ∧ i + k = i0 + 3 ∧ i0 ≤ i ∧ X < 18446744073709551616 ∧ Hid (PermIn a b d D) ∧ Hid (Var wx s (.int .u64 X)) ∧ Hid (UR B W g c D wx))
  case atStart => exact ⟨i0, l, d, rfl, rfl, by omega, by omega, permIn_refl _ _ _, V0, H0⟩
  case round =>
    obtain ⟨i, X, D, rfl, hk, hii, hX, HPM, HVX, HU⟩ := hrel
    have HS : Hid (D.size = n) := HPM.out.1.trans HN.out
    have zz : IntKind.i64.wrap ((a : Int) + (l : Int) / 4 * 2 + 1) = (i0 : Int) + 2 := by rw [IntKind.wrap_i64]; omega
    by_cases hlt : i ≤ i0 + 2
    · have i1 : (i : Int) ≤ (a : Int) + (l : Int) / 4 * 2 + 1 := by omega
      have zM : IntKind.u64.wrap ((M : Int) - 1) = (M : Int) - 1 := by rw [IntKind.wrap_u64]; omega
      go_upto_if 43 with (go_at_call 95; (with_reducible refine (CN.out X _ HVX.out hX).mono ?_); rintro e w2 ⟨Y, rfl, hY, hvy, hty⟩; obtain ⟨O, hO⟩ : ∃ O, Y &&& (M - 1) = O := ⟨_, rfl⟩; have eAnd : bits .and .u64 (Y : Int) ((M : Int) - 1) = (O : Int) := (by rw [show ((M : Int) - 1) = ((M - 1 : Nat) : Int) by omega, bits_and_u64_nat _ _ hY (by omega), hO]); have hOl : O < 2 * l := (by have := Nat.and_le_right (n := Y) (m := M - 1); omega); have HY := Lib.hid hY; have HVY := Lib.hid hvy; have HU2 : Hid (UR B W g c D w2) := HU.out.past hty (by simp; exact ⟨fun e => by omega, by rw [S0.out]; exact Nat.le_refl _⟩); clear hty hvy hY hO HU HVX)
      go_cut [10] (fun s10 wx => ∃ o : Nat, s10 = .int .i64 (o : Nat) ∧ o < l ∧ wx = w2)
      case first =>
        by_cases hol : O ≥ l
        · have i2 : (O : Int) ≥ (l : Int) := by omega
          go_wp2_with fail
          go_meet
          exact ⟨O - l, by congr 1; omega, by omega, rfl⟩
        · have i2 : ¬ (O : Int) ≥ (l : Int) := by omega
          go_wp2_with fail
          go_meet
          exact ⟨O, rfl, by omega, rfl⟩
      case rest =>
        obtain ⟨o, rfl, ho, rfl⟩ := hcut
        have cx := HU2.out.cell (i := i) (by rw [HS.out]; omega)
        have fx := HU2.out.free i
        obtain ⟨x, hx⟩ := bang_eq D i
        rw [hx] at cx
        have Hx := Lib.hid hx
        have cy := HU2.out.cell (i := a + o) (by rw [HS.out]; omega)
        have fy := HU2.out.free (a + o)
        obtain ⟨y, hy⟩ := bang_eq D (a + o)
        rw [hy] at cy
        have Hy := Lib.hid hy
        clear hx hy eAnd
        have yi : (0 : Int) ≤ (a : Int) + (o : Int) := by omega
        have yj : (a : Int) + (o : Int) < (n : Int) := by omega
        have yi1 : (i : Int) < (n : Int) := by omega
        have HFIN : Hid (UR B W g c (swp D i (a + o)) (((wc.setCell ⟨g, i, none⟩ (.int .u64 y)).setCell ⟨g, a + o, none⟩ (.int .u64 x)).drew)) := (HU2.out.swapped Hx.out Hy.out).drew
        have HFV : Hid (Var (((wc.setCell ⟨g, i, none⟩ (.int .u64 y)).setCell ⟨g, a + o, none⟩ (.int .u64 x)).drew) s (.int .u64 Y)) := ((HVY.out.other (by omega) _ _).other (by omega) _ _).touch (Touch.refl (F := []) _ |>.drew) (by simp)
        by_cases he : i = a + o
        · obtain rfl : x = y := by rw [← Hx.out, ← Hy.out, he]
          have yk : ((a : Int) + (o : Int)).toNat = i := by omega
          have HE := Lib.hid he
          rw [← he] at HFIN HFV
          clear cy fy he
          go_wp2_with fail
          go_region
          all_goals go_wp2_with fail
          go_roundg (gk - 1)
          case measure => omega
          case rel => exact ⟨i + 1, Y, swp D i i, by go_num, by omega, by omega, HY.out, permIn_trans _ _ _ _ _ HPM.out (swp_permIn D a b i i (by omega) (by omega) (by omega) (by omega) (by rw [HS.out]; exact hb)), HFV, HFIN⟩
        · have hne2 : ¬ (a + o = i) := fun e => he e.symm
          have yk : ((a : Int) + (o : Int)).toNat = a + o := by omega
          go_wp2_with fail
          go_region
          all_goals go_wp2_with fail
          go_roundg (gk - 1)
          case measure => omega
          case rel => exact ⟨i + 1, Y, swp D i (a + o), by go_num, by omega, by omega, HY.out, permIn_trans _ _ _ _ _ HPM.out (swp_permIn D a b i (a + o) (by omega) (by omega) (by omega) (by omega) (by rw [HS.out]; exact hb)), HFV, HFIN⟩
    · have i1 : ¬ (i : Int) ≤ (a : Int) + (l : Int) / 4 * 2 + 1 := by omega
      go_wp2_with fail
      go_end0
      exact ⟨D, rfl, HPM.out, HU.out⟩
end Go.Proofs.Ytfpoapmbpbkibaa
