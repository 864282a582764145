/-
  The first of a rising list at, or behind, a point is the nearest one; of the powers of two, from the greatest on, the first one that leads on is the hop (no program is met here).
  The library's BinarySearch, Index, Contains of numbers, and the code's finger: the seat that is nearest at, or behind, a power of two from here.
  The code's Hop and Fingers.
-/
import Derived.Test.YtfpoapmbpbkibaaFingPure
import Derived.Test.YtfpoapmbpbkibaaUSeq
import Derived.Test.YtfpoapmbpbkibaaFingRef
import Derived.Test.YtfpoapmbpbkibaaFingBase
namespace Go.Proofs.Ytfpoapmbpbkibaa
open Go.RowKit

theorem far_inj2 {f a b : Int} (ha : Pt a) (hb : Pt b) (h : farI f a = farI f b) : a = b := by rw [far_eq, far_eq] at h; omega
/-- where a point lies in a rising list: all ahead of it are less, none behind it is -/
def Low (sl : List Int) (f : Int) (n : Nat) : Prop := n ≤ sl.length ∧ (∀ (j : Nat) (x : Int), j < n → sl[j]? = some x → x < f) ∧ ∀ (j : Nat) (x : Int), n ≤ j → sl[j]? = some x → f ≤ x
theorem rising_le {sl : List Int} (h : sl.Pairwise (· ≤ ·)) {i j : Nat} {x y : Int} (hij : i ≤ j) (hi : sl[i]? = some x) (hj : sl[j]? = some y) : x ≤ y := by
  obtain ⟨h1, rfl⟩ := List.getElem?_eq_some_iff.1 hi
  obtain ⟨h2, rfl⟩ := List.getElem?_eq_some_iff.1 hj
  rcases Nat.lt_or_eq_of_le hij with z | rfl
  · exact List.pairwise_iff_getElem.1 h i j h1 h2 z
  · exact Int.le_refl _
theorem far_ahead {f x : Int} (hf : Pt f) (hx : Pt x) (h : f ≤ x) : farI f x = x - f := by rw [far_eq]; omega
theorem far_past {f x : Int} (hf : Pt f) (hx : Pt x) (h : x < f) : farI f x = x - f + 18446744073709551616 := by rw [far_eq]; omega
theorem near_low {sl seats : List Int} {f : Int} {n : Nat} (hf : Pt f) (hs : sl.Pairwise (· ≤ ·)) (hm : ∀ x, x ∈ sl ↔ x ∈ seats) (hp : ∀ s ∈ seats, Pt s) (hn : Low sl f n) (hne : 0 < sl.length) :
    ∃ b, sl[n % sl.length]? = some b ∧ nearI f seats = some b := by
  obtain ⟨h1, h2, h3⟩ := hn
  have hlt : n % sl.length < sl.length := Nat.mod_lt _ hne
  refine ⟨sl[n % sl.length], List.getElem?_eq_getElem hlt, ?_⟩
  have hb : sl[n % sl.length]? = some sl[n % sl.length] := List.getElem?_eq_getElem hlt
  have hbm : sl[n % sl.length] ∈ seats := (hm _).1 (List.getElem_mem hlt)
  generalize sl[n % sl.length] = b at hb hbm
  have hmin : ∀ x ∈ seats, farI f b ≤ farI f x := by
    intro x hx
    obtain ⟨j, hj, rfl⟩ := List.getElem_of_mem ((hm x).2 hx)
    have hxj : sl[j]? = some sl[j] := List.getElem?_eq_getElem hj
    have hpx := hp _ hx
    have hpb := hp _ hbm
    generalize sl[j] = x at hxj hpx
    rcases Nat.lt_or_ge n sl.length with z | z
    · rw [Nat.mod_eq_of_lt z] at hb
      have hfb := h3 n b (Nat.le_refl _) hb
      rw [far_ahead hf hpb hfb]
      rcases Nat.lt_or_ge j n with y | y
      · rw [far_past hf hpx (h2 j x y hxj)]
        have := hpx.1
        have := hpb.2
        omega
      · rw [far_ahead hf hpx (h3 j x y hxj)]
        have := rising_le hs y hb hxj
        omega
    · obtain rfl : n = sl.length := by omega
      rw [Nat.mod_self] at hb
      rw [far_past hf hpb (h2 0 b hne hb), far_past hf hpx (h2 j x (by omega) hxj)]
      have := rising_le hs (Nat.zero_le j) hb hxj
      omega
  obtain ⟨c, hc, c1, c2⟩ := near_some (f := f) (l := seats) (fun e => by rw [e] at hbm; cases hbm)
  rw [hc]
  have e := Int.le_antisymm (c2 b hbm) (hmin c c1)
  rw [far_inj2 (hp c c1) (hp b hbm) e]
/-! ### From the greatest power on -/
section
variable {me aim : Int} {seats : List Int}
/-- whether the seat at, or behind, a point is one to ask -/
def leads (me aim x : Int) : Prop := 0 < farI me x ∧ farI me x ≤ farI me aim
theorem pow2_pos (k : Nat) : 0 < pow2 k := by unfold pow2; have := Nat.two_pow_pos k; omega
theorem pow2_lt {k : Nat} (h : k < 64) : pow2 k < 18446744073709551616 := by
  have h1 : 2 ^ k < 2 ^ 64 := Nat.pow_lt_pow_right (by decide) h
  have h2 : (2 : Nat) ^ 64 = 18446744073709551616 := by decide
  unfold pow2
  rw [h2] at h1
  generalize 2 ^ k = n at *
  omega
theorem pow2_mono {j k : Nat} (h : j ≤ k) : pow2 j ≤ pow2 k := by
  have := Nat.pow_le_pow_right (n := 2) (by decide) h
  unfold pow2
  omega
theorem far_ge {a x p : Int} (ha : Pt a) (hx : Pt x) (hp0 : 0 < p) (hp1 : p < 18446744073709551616) (hne : x ≠ a) (h : farI (IntKind.u64.wrap (a + p)) x ≤ farI (IntKind.u64.wrap (a + p)) a) : p ≤ farI a x := by
  rw [far_eq, far_eq, IntKind.wrap_u64] at h
  rw [far_eq]
  omega
/-- the nearest one behind a greater power lies farther off -/
theorem near_mono (hme : me ∈ seats) (hp : ∀ s ∈ seats, Pt s) {j k : Nat} (hjk : j ≤ k) (hk : k < 64) {x y : Int} (hx : nearI (upI me j) seats = some x) (hy : nearI (upI me k) seats = some y) (hne : y ≠ me) : farI me x ≤ farI me y := by
  obtain ⟨x1, x2⟩ := (near_ok _ _).2 x hx
  obtain ⟨y1, y2⟩ := (near_ok _ _).2 y hy
  have g1 : pow2 k ≤ farI me y := far_ge (hp me hme) (hp y y1) (pow2_pos k) (pow2_lt hk) hne (y2 me hme)
  have g2 := pow2_mono hjk
  have g3 : farI (upI me j) y = farI me y - pow2 j := far_down (Int.le_of_lt (pow2_pos j)) (by omega)
  have g4 := x2 y y1
  have g5 := (farI_range me y).2
  have g6 : farI me x = pow2 j + farI (upI me j) x := far_up (Int.le_of_lt (pow2_pos j)) (by show pow2 j + farI (upI me j) x < _; omega)
  omega
/-- none of the powers leads on: there is no hop -/
theorem hop_nowhere (hp : ∀ s ∈ seats, Pt s) (hme : Pt me) (h : ∀ k, k < 64 → ∀ x, nearI (upI me k) seats = some x → ¬ leads me aim x) : hopI me aim (fingersI me seats) = none := by
  obtain ⟨-, h2⟩ := hop_ok me aim (fingersI me seats)
  cases hh : hopI me aim (fingersI me seats) with
  | none => rfl
  | some b =>
    obtain ⟨g1, g2, g3, -⟩ := h2 b hh
    obtain ⟨-, k, hk, hn⟩ := (finger_iff me seats b).1 g1
    exact absurd ⟨far_pos hme (hp b (finger_seat g1).1) (Ne.symm g2), g3⟩ (h k hk b hn)
/-- the greatest power that leads on -/
theorem hop_first (hme : me ∈ seats) (hp : ∀ s ∈ seats, Pt s) {k : Nat} (hk : k < 64) {x : Int} (hx : nearI (upI me k) seats = some x) (hl : leads me aim x) (h : ∀ j, k < j → j < 64 → ∀ y, nearI (upI me j) seats = some y → ¬ leads me aim y) :
    hopI me aim (fingersI me seats) = some x := by
  have x1 := ((near_ok _ _).2 x hx).1
  have hxne : x ≠ me := fun e => by
    have := hl.1
    rw [e, far_self] at this
    omega
  have hxf : x ∈ fingersI me seats := (finger_iff me seats x).2 ⟨hxne, k, hk, hx⟩
  obtain ⟨h1, h2⟩ := hop_ok me aim (fingersI me seats)
  cases hh : hopI me aim (fingersI me seats) with
  | none => exact absurd ⟨hxne, hl.2⟩ (h1 hh x hxf)
  | some b =>
    obtain ⟨g1, g2, g3, g4⟩ := h2 b hh
    obtain ⟨-, j, hj, hn⟩ := (finger_iff me seats b).1 g1
    have hb := (finger_seat g1).1
    have hjk : j ≤ k := Nat.le_of_not_lt fun z => h j z hj b hn ⟨far_pos (hp me hme) (hp b hb) (Ne.symm g2), g3⟩
    have e1 := near_mono hme hp hjk hk hn hx hxne
    have e2 := g4 x hxf hxne hl.2
    rw [far_on g3, far_on hl.2] at e2
    rw [far_inj2 (f := me) (hp b hb) (hp x x1) (by omega)]
end
end Go.Proofs.Ytfpoapmbpbkibaa
namespace Go.Proofs.Ytfpoapmbpbkibaa
open Go.RowKit Pb Go.Sort

set_option maxHeartbeats 1000000 in
theorem uNaN2_any (x : Int) (W : World) : Calls Try.prog 77 #[.int .u64 x] W fun e w' => e = .returned (.bool false) ∧ w' = W := by
  go_enter Try.func77, Try.ntmps77
  go_wp2
  go_ret
  exact ⟨by simp, rfl⟩
def FoundAt (sl : List Int) (f : Int) (W : World) (e : Ending) (w' : World) : Prop := ∃ (m : Nat) (t : Bool), e = .returned (.tuple #[.int .i64 m, .bool t]) ∧ Low sl f m ∧ w' = W
set_option maxRecDepth 100000 in
set_option maxHeartbeats 4000000 in
theorem binary_any {W : World} {A : Option Addr} {n c : Nat} {sl : List Int} (f : Int) (hA : PtAt W A sl) (hn : sl.length = n) (hl : n ≤ 100000) (hs : sl.Pairwise (· ≤ ·)) :
    Calls Try.prog 58 #[.slice A n c, .int .u64 f] W (FoundAt sl f W) := by
  have HA := Lib.hid hA
  have HN := Lib.hid hn
  have HS := Lib.hid hs
  clear hA hn hs
  go_enter Try.func58, Try.ntmps58
  go_upto_block 0 with fail
  go_cut [7] (fun s7 wx => ∃ m : Nat, s7 = .int .i64 (m : Nat) ∧ Hid (Low sl f m) ∧ wx = W)
  case first =>
    go_wp2_with fail
    go_loopg [7, 8] n (fun k s7 s8 wx => ∃ (i j : Nat), s7 = .int .i64 (i : Nat) ∧ s8 = .int .i64 (j : Nat) ∧ j - i ≤ k ∧ i ≤ j ∧ j ≤ n ∧ Hid (∀ (t : Nat) (x : Int), t < i → sl[t]? = some x → x < f) ∧ Hid (∀ (t : Nat) (x : Int), j ≤ t → sl[t]? = some x → f ≤ x) ∧ wx = W)
    case atStart => exact ⟨0, n, rfl, rfl, by omega, by omega, by omega, (fun t x h => by omega), (fun t x h hx => by have := (List.getElem?_eq_some_iff.1 hx).1; have := HN.out; omega), rfl⟩
    case round =>
      obtain ⟨i, j, rfl, rfl, hk, hij, hj, HLO, HHI, rfl⟩ := hrel
      by_cases hlt : i < j
      · have i1 : (i : Int) < (j : Int) := by omega
        go_upto_region 5 with fail
        obtain ⟨h, hh⟩ : ∃ h : Nat, ((i : Int) + (j : Int)) / 2 = (h : Int) := ⟨(i + j) / 2, by omega⟩
        rw [hh]
        have g1 : i ≤ h := by omega
        have g2 : h < j := by omega
        clear hh
        obtain ⟨b1, o1, h1⟩ := HA.out
        obtain ⟨rfl, -, e1⟩ := h1 h (by rw [HN.out]; omega)
        have hx : sl[h]? = some (sl[h]'(by rw [HN.out]; omega)) := List.getElem?_eq_getElem _
        generalize sl[h]'(by rw [HN.out]; omega) = x at e1 hx
        have HX := Lib.hid hx
        clear h1 hx
        have CL := Lib.hid (uLess_any x f)
        by_cases hr : x < f
        · have hlt2 : ltInt x f = true := decide_eq_true hr
          rw [hlt2] at CL
          have HR := Lib.hid hr
          clear hlt2 hr
          go_wp2_with (go_at_call 76; (with_reducible refine (CL.out _).mono ?_); rintro e w1 ⟨rfl, rfl⟩)
          go_roundg (j - (h + 1))
          case measure => omega
          case rel => exact ⟨h + 1, j, by go_num, rfl, by omega, by omega, hj, (fun t y ht hy => Int.lt_of_le_of_lt (rising_le HS.out (by omega) hy HX.out) HR.out), HHI, rfl⟩
        · have hlt2 : ltInt x f = false := decide_eq_false hr
          rw [hlt2] at CL
          have HR := Lib.hid hr
          clear hlt2 hr
          go_wp2_with (go_at_call 76; (with_reducible refine (CL.out _).mono ?_); rintro e w1 ⟨rfl, rfl⟩)
          go_roundg (h - i)
          case measure => omega
          case rel => exact ⟨i, h, rfl, rfl, by omega, by omega, by omega, HLO, (fun t y ht hy => Int.le_trans (by have := HR.out; omega) (rising_le HS.out ht HX.out hy)), rfl⟩
      · have i1 : ¬ (i : Int) < (j : Int) := by omega
        obtain rfl : i = j := by omega
        go_wp2_with fail
        go_meet
        exact ⟨i, rfl, ⟨by rw [HN.out]; exact hj, HLO.out, HHI.out⟩, rfl⟩
  case rest =>
    obtain ⟨m, rfl, HM, rfl⟩ := hcut
    by_cases hlt : m < n
    · have i1 : (m : Int) < (n : Int) := by omega
      obtain ⟨b1, o1, h1⟩ := HA.out
      obtain ⟨rfl, -, e1⟩ := h1 m (by rw [HN.out]; omega)
      generalize sl[m]'(by rw [HN.out]; omega) = x at e1
      clear h1
      cases hq : (x == f) with
      | true =>
        go_wp2_with (go_at_call 77; (with_reducible refine (uNaN2_any _ _).mono ?_); rintro e w1 ⟨rfl, rfl⟩)
        go_ret2
        exact ⟨m, true, rfl, HM.out, rfl⟩
      | false =>
        go_wp2_with (go_at_call 77; (with_reducible refine (uNaN2_any _ _).mono ?_); rintro e w1 ⟨rfl, rfl⟩)
        go_ret2
        exact ⟨m, false, rfl, HM.out, rfl⟩
    · have i1 : ¬ (m : Int) < (n : Int) := by omega
      go_wp2_with (go_at_call 77; (with_reducible refine (uNaN2_any _ _).mono ?_); rintro e w1 ⟨rfl, rfl⟩)
      go_ret2
      exact ⟨m, false, rfl, HM.out, rfl⟩
def IdxPost (l : List Int) (x : Int) (W : World) (e : Ending) (w' : World) : Prop := ∃ k : Int, e = .returned (.int .i64 k) ∧ (0 ≤ k ↔ x ∈ l) ∧ w' = W
set_option maxRecDepth 100000 in
set_option maxHeartbeats 4000000 in
theorem index_any {W : World} {A : Option Addr} {n c : Nat} {l : List Int} (x : Int) (hA : PtAt W A l) (hn : l.length = n) (hl : n ≤ 100000) :
    Calls Try.prog 59 #[.slice A n c, .int .u64 x] W (IdxPost l x W) := by
  have HA := Lib.hid hA
  have HN := Lib.hid hn
  clear hA hn
  go_enter Try.func59, Try.ntmps59
  go_wp2
  go_loopg [8] (n + 1) (fun gh s8 wx => ∃ i : Nat, i + gh = n + 1 ∧ i ≤ n ∧ s8 = .int .i64 (i : Nat) ∧ Hid (x ∉ l.take i) ∧ wx = W)
  case atStart => exact ⟨0, by omega, by omega, rfl, (fun z => (by simp at z)), rfl⟩
  case round =>
    obtain ⟨i, hig, hi, rfl, HX, rfl⟩ := hrel
    by_cases hlt : i < n
    · have i1 : (i : Int) < (n : Int) := by omega
      have zi : IntKind.i64.wrap ((i : Int) + 1) = (i : Int) + 1 := by rw [IntKind.wrap_i64]; omega
      obtain ⟨b1, o1, h1⟩ := HA.out
      obtain ⟨rfl, -, e1⟩ := h1 i (by rw [HN.out]; exact hlt)
      have hts := take_snoc_at l i (by rw [HN.out]; exact hlt)
      have hmem := List.getElem_mem (l := l) (n := i) (by rw [HN.out]; exact hlt)
      generalize l[i]'(by rw [HN.out]; exact hlt) = y at e1 hts hmem
      have HT := Lib.hid hts
      have HM := Lib.hid hmem
      clear h1 hts hmem
      by_cases he : x = y
      · subst he
        go_wp2_with fail
        go_ret
        exact ⟨i, rfl, by simp [HM.out], rfl⟩
      · have hb : (x == y) = false := by rw [beq_eq_false_iff_ne]; exact he
        go_wp2_with fail
        go_roundg (gk - 1)
        case measure => omega
        case rel => exact ⟨i + 1, by omega, by omega, by go_num, by rw [HT.out]; intro z; rcases List.mem_append.1 z with z | z; exact HX.out z; exact he (List.mem_singleton.1 z), rfl⟩
    · obtain rfl : i = n := by omega
      have HT : Hid (l.take i = l) := List.take_of_length_le (by rw [HN.out]; exact Nat.le_refl _)
      go_wp2_with fail
      go_ret
      exact ⟨-1, rfl, by have := HX.out; rw [HT.out] at this; simp [this], rfl⟩
set_option maxHeartbeats 1000000 in
theorem contains_any {W : World} {A : Option Addr} {n c : Nat} {l : List Int} (x : Int) (hA : PtAt W A l) (hn : l.length = n) (hl : n ≤ 100000) :
    Calls Try.prog 25 #[.slice A n c, .int .u64 x] W fun e w' => e = .returned (.bool (decide (x ∈ l))) ∧ w' = W := by
  have CI := Lib.hid (fun (c : Nat) => index_any (c := c) x hA hn hl)
  obtain ⟨d, hd⟩ : ∃ d, decide (x ∈ l) = d := ⟨_, rfl⟩
  rw [hd]
  have HD := Lib.hid hd
  clear hA hn hd
  go_enter Try.func25, Try.ntmps25
  go_wp2_with (go_at_call 59; (with_reducible refine (CI.out _).mono ?_); rintro e w1 ⟨k, rfl, hk, rfl⟩; have HK := Lib.hid hk; clear hk; have hkd : decide (k ≥ 0) = d := (by rw [← HD.out]; exact decide_eq_decide.2 HK.out))
  go_ret
  exact ⟨by simp, rfl⟩
/-- a rising list that holds the seats -/
structure Seated (sl seats : List Int) : Prop where
  up : sl.Pairwise (· ≤ ·)
  mem : ∀ x, x ∈ sl ↔ x ∈ seats
  pts : ∀ s ∈ seats, Pt s
theorem seated (seats : List Int) (h : ∀ s ∈ seats, Pt s) : Seated (sortU seats) seats := ⟨sortU_sorted seats, sortU_mem seats, h⟩
set_option maxRecDepth 100000 in
set_option maxHeartbeats 4000000 in
theorem finger_any {W : World} {A : Option Addr} {n c k : Nat} {me : Int} {sl seats : List Int} (hk : k < 64) (hA : PtAt W A sl) (hn : sl.length = n) (hl : n ≤ 100000) (h0 : 0 < n) (hs : Seated sl seats) :
    Calls Try.prog 24 #[.int .u64 me, .int .i64 k, .slice A n c] W fun e w' => ∃ b, e = .returned (.int .u64 b) ∧ nearI (upI me k) seats = some b ∧ w' = W := by
  have HA := Lib.hid hA
  have HN := Lib.hid hn
  have HS := Lib.hid hs
  have zp := pow2_small hk
  obtain ⟨fr, hfr⟩ : ∃ fr, upI me k = fr := ⟨_, rfl⟩
  have zf : IntKind.u64.wrap (me + pow2 k) = fr := hfr
  have hp : Pt fr := by rw [← hfr]; exact wrap_pt _
  have HP := Lib.hid hp
  rw [hfr]
  have CB := Lib.hid (fun (c : Nat) => binary_any (c := c) fr hA hn hl hs.up)
  have k0 : (0 : Int) ≤ (k : Int) := by omega
  clear hA hn hs hfr hp
  go_enter Try.func24, Try.ntmps24
  go_upto_region 2 with (go_at_call 58; (with_reducible refine (CB.out _).mono ?_); rintro e w1 ⟨m, t, rfl, hm, rfl⟩)
  obtain ⟨b, hb, hnear⟩ := near_low HP.out HS.out.up HS.out.mem HS.out.pts hm (by rw [HN.out]; exact h0)
  rw [HN.out] at hb
  have hql : m % n < n := Nat.mod_lt _ h0
  obtain ⟨b1, o1, h1⟩ := HA.out
  obtain ⟨rfl, -, e1⟩ := h1 (m % n) (by rw [HN.out]; exact hql)
  have hbe : sl[m % n]'(by rw [HN.out]; exact hql) = b := by
    rw [List.getElem?_eq_getElem (by rw [HN.out]; exact hql)] at hb
    exact Option.some.inj hb
  rw [hbe] at e1
  have n1 : ¬ ((n : Int) = 0) := by omega
  have zq : ((m : Int) % (n : Int)) = ((m % n : Nat) : Int) := by simp
  have HNR := Lib.hid hnear
  clear h1 hb hbe hm hnear CB
  generalize m % n = q at *
  go_wp2_with fail
  go_ret
  exact ⟨b, rfl, HNR.out, rfl⟩
end Go.Proofs.Ytfpoapmbpbkibaa
namespace Go.Proofs.Ytfpoapmbpbkibaa
open Go.RowKit Pb

set_option maxHeartbeats 1000000 in
theorem far_code (a b : Int) (W : World) : Calls Try.prog 26 #[.int .u64 a, .int .u64 b] W fun e w' => e = .returned (.int .u64 (farI a b)) ∧ W = w' := by
  go_enter Try.func26, Try.ntmps26
  go_wp2
  go_ret
  exact ⟨rfl, rfl⟩
/-- how far the hop is -/
def mostI (me : Int) (o : Option Int) : Int := match o with
  | none => 0
  | some b => farI me b
theorem hop_code {me aim x : Int} {o : Option Int} {l : List Int} (ho : HopOk me aim l o) (hl : ∀ s ∈ l, Pt s) (hme : Pt me) (hx : Pt x) :
    hopStep me aim o x = if mostI me o < farI me x ∧ farI me x ≤ farI me aim then some x else o := by
  unfold hopStep
  by_cases hv : farI me x ≤ farI me aim
  · cases o with
    | none =>
      by_cases hne : x = me
      · subst hne
        rw [if_neg (fun z => z.1 rfl), if_neg (fun z => by have h : (0 : Int) < farI x x := z.1; rw [far_self] at h; omega)]
      · rw [if_pos ⟨hne, hv, fun b hb => by cases hb⟩, if_pos ⟨far_pos hme hx (Ne.symm hne), hv⟩]
    | some b =>
      obtain ⟨h1, h2, h3, -⟩ := ho.2 b rfl
      have e1 := far_on hv
      have e2 := far_on h3
      have hb := far_pos hme (hl b h1) (Ne.symm h2)
      by_cases hc : farI me b < farI me x
      · have hne : x ≠ me := fun e => by rw [e, far_self] at hc; omega
        rw [if_pos ⟨hne, hv, fun c hcc => by obtain rfl := Option.some.inj hcc; omega⟩, if_pos ⟨hc, hv⟩]
      · rw [if_neg (fun z => hc (by have := z.2.2 b rfl; omega)), if_neg (fun z => hc z.1)]
  · rw [if_neg (fun z => hv z.2.1), if_neg (fun z => hv z.2)]
theorem hop_take {me aim : Int} (l : List Int) (k : Nat) : HopOk me aim (l.take k) (hopI me aim (l.take k)) := hop_ok me aim _
theorem most_pos {me aim : Int} {o : Option Int} {l : List Int} (ho : HopOk me aim l o) (hl : ∀ s ∈ l, Pt s) (hme : Pt me) : decide (mostI me o > 0) = o.isSome := by
  cases o with
  | none => rfl
  | some b =>
    obtain ⟨h1, h2, h3, -⟩ := ho.2 b rfl
    have hb := far_pos hme (hl b h1) (Ne.symm h2)
    exact decide_eq_true hb
set_option maxRecDepth 100000 in
set_option maxHeartbeats 4000000 in
theorem hop_any {me aim : Int} {A : Option Addr} {c n : Nat} {fs : List Int} {W : World} (hme : Pt me) (hp : ∀ s ∈ fs, Pt s) (hA : PtAt W A fs) (hn : fs.length = n) (hl : n ≤ 100000) :
    Calls Try.prog 14 #[.int .u64 me, .int .u64 aim, .slice A n c] W fun e w' => e = .returned (hopV (hopI me aim fs)) ∧ w' = W := by
  have HA := Lib.hid hA
  have HN := Lib.hid hn
  have HP := Lib.hid hp
  have HME := Lib.hid hme
  obtain ⟨d2, hd2⟩ : ∃ d, farI me aim = d := ⟨_, rfl⟩
  have C2 : Hid (∀ w, Calls Try.prog 26 #[.int .u64 me, .int .u64 aim] w fun e w' => e = .returned (.int .u64 d2) ∧ w' = w) := fun w => (far_code me aim w).mono fun e w' ⟨x, y⟩ => ⟨by rw [x, hd2], y.symm⟩
  obtain ⟨V, hV⟩ : ∃ V, hopV (hopI me aim fs) = V := ⟨_, rfl⟩
  rw [hV]
  have HV := Lib.hid hV
  have HD2 := Lib.hid hd2
  clear hA hn hV hd2 hp hme
  go_enter Try.func14, Try.ntmps14
  go_wp2
  go_loopg [8, 9, 15] (n + 1) (fun gh s8 s9 s15 wx => ∃ (k : Nat) (o : Option Int) (q : Int), k + gh = n + 1 ∧ k ≤ n ∧ s15 = .int .i64 (k : Nat) ∧ s8 = .int .u64 (o.getD 0) ∧ s9 = .int .u64 q ∧ Hid (q = mostI me o) ∧ Hid (o = hopI me aim (fs.take k)) ∧ wx = W)
  case atStart => exact ⟨0, none, 0, by omega, by omega, rfl, rfl, rfl, rfl, rfl, rfl⟩
  case round =>
    obtain ⟨k, o, q, hkg, hk, rfl, rfl, rfl, HQ, HO, rfl⟩ := hrel
    by_cases hkn : k < n
    · have k1 : (k : Int) < (n : Int) := by omega
      have zk : IntKind.i64.wrap ((k : Int) + 1) = (k : Int) + 1 := by rw [IntKind.wrap_i64]; omega
      obtain ⟨b1, o1, h1⟩ := HA.out
      obtain ⟨rfl, -, e1⟩ := h1 k (by rw [HN.out]; exact hkn)
      have hts := take_snoc_at fs k (by rw [HN.out]; exact hkn)
      have hmem := List.getElem_mem (l := fs) (n := k) (by rw [HN.out]; exact hkn)
      generalize fs[k]'(by rw [HN.out]; exact hkn) = f at e1 hts hmem
      have hst : hopI me aim (fs.take (k + 1)) = hopStep me aim o f := by rw [hts, hopI_snoc, ← HO.out]
      rw [hop_code (by rw [HO.out]; exact hop_take fs k) (fun s hs => HP.out s (List.mem_of_mem_take hs)) HME.out (HP.out f hmem)] at hst
      obtain ⟨d1, hd1⟩ : ∃ d, farI me f = d := ⟨_, rfl⟩
      rw [hd1, HD2.out, ← HQ.out] at hst
      have C1 : Hid (∀ w, Calls Try.prog 26 #[.int .u64 me, .int .u64 f] w fun e w' => e = .returned (.int .u64 d1) ∧ w' = w) := fun w => (far_code me f w).mono fun e w' ⟨x, y⟩ => ⟨by rw [x, hd1], y.symm⟩
      have HST := Lib.hid hst
      have HD1 := Lib.hid hd1
      clear hst hts h1 hd1 hmem
      by_cases c1 : q < d1
      · by_cases c2 : d1 ≤ d2
        · have HC : Hid (hopI me aim (fs.take (k + 1)) = some f) := HST.out.trans (if_pos ⟨c1, c2⟩)
          go_wp2_with (first
            | (go_at_call 26; (with_reducible refine (C1.out _).mono ?_); rintro e w1 ⟨rfl, rfl⟩)
            | (go_at_call 26; (with_reducible refine (C2.out _).mono ?_); rintro e w1 ⟨rfl, rfl⟩))
          go_roundg (gk - 1)
          case measure => omega
          case rel => exact ⟨k + 1, some f, d1, by omega, by omega, by go_num, rfl, rfl, HD1.out.symm, HC.out.symm, rfl⟩
        · have HC : Hid (hopI me aim (fs.take (k + 1)) = o) := HST.out.trans (if_neg (fun z => c2 z.2))
          go_wp2_with (first
            | (go_at_call 26; (with_reducible refine (C1.out _).mono ?_); rintro e w1 ⟨rfl, rfl⟩)
            | (go_at_call 26; (with_reducible refine (C2.out _).mono ?_); rintro e w1 ⟨rfl, rfl⟩))
          go_roundg (gk - 1)
          case measure => omega
          case rel => exact ⟨k + 1, o, q, by omega, by omega, by go_num, rfl, rfl, HQ, HC.out.symm, rfl⟩
      · have HC : Hid (hopI me aim (fs.take (k + 1)) = o) := HST.out.trans (if_neg (fun z => c1 z.1))
        go_wp2_with (first
          | (go_at_call 26; (with_reducible refine (C1.out _).mono ?_); rintro e w1 ⟨rfl, rfl⟩)
          | (go_at_call 26; (with_reducible refine (C2.out _).mono ?_); rintro e w1 ⟨rfl, rfl⟩))
        go_roundg (gk - 1)
        case measure => omega
        case rel => exact ⟨k + 1, o, q, by omega, by omega, by go_num, rfl, rfl, HQ, HC.out.symm, rfl⟩
    · obtain rfl : n = k := by omega
      have hta : fs.take n = fs := List.take_of_length_le (by rw [HN.out]; exact Nat.le_refl _)
      have h1 := HO.out
      rw [hta] at h1
      have hm : decide (q > 0) = o.isSome := by rw [HQ.out]; exact most_pos (by rw [h1]; exact hop_ok me aim fs) HP.out HME.out
      have HM := Lib.hid hm
      have H1 := Lib.hid h1
      obtain ⟨dq, hdq⟩ : ∃ d, decide (q > 0) = d := ⟨_, rfl⟩
      have HDQ := Lib.hid (hdq.symm.trans hm)
      clear hm h1 hta
      go_wp2_with fail
      go_ret2
      exact ⟨by rw [← HV.out, ← H1.out, HDQ.out]; rfl, rfl⟩
end Go.Proofs.Ytfpoapmbpbkibaa
