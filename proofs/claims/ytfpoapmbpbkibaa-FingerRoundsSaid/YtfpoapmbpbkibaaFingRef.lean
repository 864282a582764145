/-
  The document's Hop, Fingers, Way.
-/
import Derived.Test.YtfpoapmbpbkibaaFingPure
import Derived.Test.YtfpoapmbpbkibaaPbLent
namespace Go.Proofs.Ytfpoapmbpbkibaa
open Go.RowKit Pb

/-- what Hop answers -/
def hopV (o : Option Int) : Value := .tuple #[.int .u64 (o.getD 0), .bool o.isSome]
set_option maxRecDepth 20000 in
set_option maxHeartbeats 4000000 in
theorem refHop_any (me aim : Int) (A : Option Addr) (c n : Nat) (fs : List Int) (W : World) (hA : PtAt W A fs) (hn : fs.length = n) (hl : n ≤ 100000) :
    Calls Try.prog 15 #[.int .u64 me, .int .u64 aim, .slice A n c] W fun e w' => e = .returned (hopV (hopI me aim fs)) ∧ Below W.heap.size W w' := by
  have HA := Lib.hid hA
  have HN := Lib.hid hn
  obtain ⟨d2, hd2⟩ : ∃ d, farI me aim = d := ⟨_, rfl⟩
  have z2 : IntKind.u64.wrap (aim - me) = d2 := hd2
  obtain ⟨V, hV⟩ : ∃ V, hopV (hopI me aim fs) = V := ⟨_, rfl⟩
  rw [hV]
  have HV := Lib.hid hV
  have HD2 := Lib.hid hd2
  clear hA hn hV hd2
  go_enter Try.func15, Try.ntmps15
  go_wp2
  go_loopg [8, 9, 10, 11] (n + 1) (fun gh s8 s9 s10 s11 wx => ∃ (k : Nat) (o : Option Int), k + gh = n + 1 ∧ k ≤ n ∧ s10 = .int .i64 (k : Nat) ∧ s8 = .int .u64 (o.getD 0) ∧ s9 = .bool o.isSome ∧ Hid (o = hopI me aim (fs.take k)) ∧ Hid (Below W.heap.size W wx))
  case atStart => exact ⟨0, none, by omega, by omega, rfl, rfl, rfl, rfl, Below.refl _ _⟩
  case round =>
    obtain ⟨k, o, hkg, hk, rfl, rfl, rfl, HO, HB⟩ := hrel
    by_cases hkn : k < n
    · have k1 : (k : Int) < (n : Int) := by omega
      have zk : IntKind.i64.wrap ((k : Int) + 1) = (k : Int) + 1 := by rw [IntKind.wrap_i64]; omega
      obtain ⟨b1, o1, h1⟩ := HA.out.below HB.out
      obtain ⟨rfl, -, e1⟩ := h1 k (by rw [HN.out]; exact hkn)
      have hts := take_snoc_at fs k (by rw [HN.out]; exact hkn)
      generalize fs[k]'(by rw [HN.out]; exact hkn) = f at e1 hts
      have hst : hopI me aim (fs.take (k + 1)) = hopStep me aim o f := by rw [hts, hopI_snoc, ← HO.out]
      unfold hopStep at hst
      obtain ⟨d1, hd1⟩ : ∃ d, farI me f = d := ⟨_, rfl⟩
      obtain ⟨d3, hd3⟩ : ∃ d, farI f aim = d := ⟨_, rfl⟩
      have z1 : IntKind.u64.wrap (f - me) = d1 := hd1
      have z3 : IntKind.u64.wrap (aim - f) = d3 := hd3
      rw [hd1, hd3, HD2.out] at hst
      have HST := Lib.hid hst
      clear hst hts h1 hd1 hd3
      by_cases c1 : f = me
      · have b1 : (f != me) = false := by simp [c1]
        have HC : Hid (hopI me aim (fs.take (k + 1)) = o) := HST.out.trans (if_neg (fun z => z.1 c1))
        clear c1
        go_wp2_with fail
        go_roundg (gk - 1)
        case measure => omega
        case rel => exact ⟨k + 1, o, by omega, by omega, by go_num, rfl, rfl, HC.out.symm, HB⟩
      · have b1 : (f != me) = true := bne_iff_ne.2 c1
        by_cases c2 : d1 ≤ d2
        · have b2 : decide (d1 ≤ d2) = true := decide_eq_true c2
          cases o with
          | none =>
            have HC : Hid (hopI me aim (fs.take (k + 1)) = some f) := HST.out.trans (if_pos ⟨c1, c2, fun b hb => by cases hb⟩)
            clear c1
            go_wp2_with fail
            go_roundg (gk - 1)
            case measure => omega
            case rel => exact ⟨k + 1, some f, by omega, by omega, by go_num, rfl, rfl, HC.out.symm, HB⟩
          | some b =>
            obtain ⟨d4, hd4⟩ : ∃ d, farI b aim = d := ⟨_, rfl⟩
            have z4 : IntKind.u64.wrap (aim - b) = d4 := hd4
            by_cases c3 : d3 < d4
            · have b3 : decide (d3 < d4) = true := decide_eq_true c3
              have HC : Hid (hopI me aim (fs.take (k + 1)) = some f) := HST.out.trans (if_pos ⟨c1, c2, fun b' hb => by obtain rfl := Option.some.inj hb; rw [hd4]; exact c3⟩)
              clear c1 hd4
              go_wp2_with fail
              go_roundg (gk - 1)
              case measure => omega
              case rel => exact ⟨k + 1, some f, by omega, by omega, by go_num, rfl, rfl, HC.out.symm, HB⟩
            · have b3 : decide (d3 < d4) = false := decide_eq_false c3
              have HC : Hid (hopI me aim (fs.take (k + 1)) = some b) := HST.out.trans (if_neg (fun z => c3 (by have := z.2.2 b rfl; rw [hd4] at this; exact this)))
              clear c1 hd4
              go_wp2_with fail
              go_roundg (gk - 1)
              case measure => omega
              case rel => exact ⟨k + 1, some b, by omega, by omega, by go_num, rfl, rfl, HC.out.symm, HB⟩
        · have b2 : decide (d1 ≤ d2) = false := decide_eq_false c2
          have HC : Hid (hopI me aim (fs.take (k + 1)) = o) := HST.out.trans (if_neg (fun z => c2 z.2.1))
          clear c1
          go_wp2_with fail
          go_roundg (gk - 1)
          case measure => omega
          case rel => exact ⟨k + 1, o, by omega, by omega, by go_num, rfl, rfl, HC.out.symm, HB⟩
    · obtain rfl : n = k := by omega
      have hta : fs.take n = fs := List.take_of_length_le (by rw [HN.out]; exact Nat.le_refl _)
      go_wp2_with fail
      go_ret2
      have h1 := HO.out
      rw [hta] at h1
      subst h1
      exact ⟨by rw [← HV.out]; rfl, HB.out⟩
theorem pow2_eq (k : Nat) : (2 : Int) ^ k = pow2 k := by unfold pow2; simp
theorem pow2_small {k : Nat} (h : k < 64) : IntKind.u64.wrap ((2 : Int) ^ k) = pow2 k := by
  rw [pow2_eq, IntKind.wrap_u64]
  have h1 : 2 ^ k < 2 ^ 64 := Nat.pow_lt_pow_right (by decide) h
  have h2 : (2 : Nat) ^ 64 = 18446744073709551616 := by decide
  unfold pow2
  rw [h2] at h1
  generalize 2 ^ k = n at *
  omega
theorem any_snoc (l : List Int) (b x : Int) : ((l ++ [x]).any fun y => y == b) = ((l.any fun y => y == b) || (x == b)) := by simp
theorem any_mem (l : List Int) (b : Int) : ((l.any fun y => y == b) = true) ↔ b ∈ l := by simp
set_option maxRecDepth 20000 in
set_option maxHeartbeats 8000000 in
theorem refFingers_any (me : Int) (A : Option Addr) (c n : Nat) (seats : List Int) (W : World) (hA : PtAt W A seats) (hn : seats.length = n) (hl : n ≤ 100000) :
    Calls Try.prog 18 #[.int .u64 me, .slice A n c] W (NewPts W (fingersI me seats)) := by
  obtain ⟨i0, z0, hi0, hz, hsL, hbL, hzc⟩ := infoP_
  have HA := Lib.hid hA
  have HN := Lib.hid hn
  clear hA hn
  go_enter Try.func18, Try.ntmps18
  go_wp2
  go_loopg [5, 6, 7, 8, 9, 10, 11, 12] 65 (fun gh s5 s6 s7 s8 s9 s10 s11 s12 wx => ∃ (k c' m : Nat) (A' : Option Addr), k + gh = 65 ∧ k ≤ 64 ∧ s6 = .int .i64 (k : Nat) ∧ s5 = .slice A' m c' ∧ (fingersTo me seats k).length = m ∧ Hid (wx.ownsRow W.heap.size 22 1 (.slice A' m c') m (ptC (fingersTo me seats k))) ∧ Hid (Below W.heap.size W wx))
  case atStart => exact ⟨0, 0, 0, none, by omega, by omega, rfl, rfl, rfl, World.ownsRow_nil _ _ _ _, Below.refl _ _⟩
  case round =>
    obtain ⟨k, c', m, A', hkg, hk, rfl, rfl, hm, HO, HB⟩ := hrel
    by_cases hlt : k < 64
    · have i1 : (k : Int) < 64 := by omega
      have zk : IntKind.i64.wrap ((k : Int) + 1) = (k : Int) + 1 := by rw [IntKind.wrap_i64]; omega
      obtain ⟨fr, hfr⟩ : ∃ fr, upI me k = fr := ⟨_, rfl⟩
      have zp := pow2_small hlt
      have zf : IntKind.u64.wrap (me + pow2 k) = fr := hfr
      have hfs := fingersTo_succ me seats k
      unfold fingerStep at hfs
      rw [hfr] at hfs
      obtain ⟨out, hout⟩ : ∃ out, fingersTo me seats k = out := ⟨_, rfl⟩
      rw [hout] at hfs hm HO
      have hm64 : m ≤ 64 := by have := (fingersTo_ok me seats k).1; rw [hout] at this; omega
      have HFS := Lib.hid hfs
      have HM := Lib.hid hm
      clear hfr hfs hout hm
      go_upto_region 5 with fail
      go_wp2
      obtain ⟨gz, rfl⟩ : ∃ gz : Nat, gz = gk := ⟨_, rfl⟩
      obtain ⟨wo, rfl⟩ : ∃ wo : World, wo = wr := ⟨_, rfl⟩
      clear zp zf
      go_loopg [8, 9, 10] (n + 1) (fun gh s8 s9 s10 wx => ∃ (i : Nat) (o : Option Int), i + gh = n + 1 ∧ i ≤ n ∧ s10 = .int .i64 (i : Nat) ∧ s8 = .int .u64 (o.getD 0) ∧ s9 = .bool o.isSome ∧ Hid (o = nearI fr (seats.take i)) ∧ Hid (Below wo.heap.size wo wx))
      case atStart => exact ⟨0, none, by omega, by omega, rfl, rfl, rfl, rfl, Below.refl _ _⟩
      case round =>
        obtain ⟨i, o, hig, hin, rfl, rfl, rfl, HI, HK⟩ := hrel
        by_cases hlt2 : i < n
        · have i2 : (i : Int) < (n : Int) := by omega
          have zi : IntKind.i64.wrap ((i : Int) + 1) = (i : Int) + 1 := by rw [IntKind.wrap_i64]; omega
          obtain ⟨b1, o1, h1⟩ := HA.out.below (acc HB.out HK.out)
          obtain ⟨rfl, -, e1⟩ := h1 i (by rw [HN.out]; exact hlt2)
          have hts := take_snoc_at seats i (by rw [HN.out]; exact hlt2)
          generalize seats[i]'(by rw [HN.out]; exact hlt2) = f at e1 hts
          have hst : nearI fr (seats.take (i + 1)) = nearStep fr o f := by rw [hts, nearI_snoc, ← HI.out]
          obtain ⟨d1, hd1⟩ : ∃ d, farI fr f = d := ⟨_, rfl⟩
          have z1 : IntKind.u64.wrap (f - fr) = d1 := hd1
          have HST := Lib.hid hst
          clear hst hts h1
          cases o with
          | none =>
            clear hd1
            go_wp2_with fail
            go_roundg (gk - 1)
            case measure => omega
            case rel => exact ⟨i + 1, some f, by omega, by omega, by go_num, rfl, rfl, HST.out.symm, HK⟩
          | some b =>
            obtain ⟨d2, hd2⟩ : ∃ d, farI fr b = d := ⟨_, rfl⟩
            have z2 : IntKind.u64.wrap (b - fr) = d2 := hd2
            have hst2 : nearStep fr (some b) f = if d1 < d2 then some f else some b := by unfold nearStep; simp only; rw [hd1, hd2]
            by_cases c3 : d1 < d2
            · have b3 : decide (d1 < d2) = true := decide_eq_true c3
              have HC : Hid (nearI fr (seats.take (i + 1)) = some f) := (HST.out.trans hst2).trans (if_pos c3)
              clear hd1 hd2 hst2
              go_wp2_with fail
              go_roundg (gk - 1)
              case measure => omega
              case rel => exact ⟨i + 1, some f, by omega, by omega, by go_num, rfl, rfl, HC.out.symm, HK⟩
            · have b3 : decide (d1 < d2) = false := decide_eq_false c3
              have HC : Hid (nearI fr (seats.take (i + 1)) = some b) := (HST.out.trans hst2).trans (if_neg c3)
              clear hd1 hd2 hst2
              go_wp2_with fail
              go_roundg (gk - 1)
              case measure => omega
              case rel => exact ⟨i + 1, some b, by omega, by omega, by go_num, rfl, rfl, HC.out.symm, HK⟩
        · obtain rfl : n = i := by omega
          have hta : seats.take n = seats := List.take_of_length_le (by rw [HN.out]; exact Nat.le_refl _)
          have h1 := HI.out
          rw [hta] at h1
          have hfs := HFS.out
          rw [← h1] at hfs
          have HFS2 := Lib.hid hfs
          have HB2 : Hid (Below W.heap.size W wr) := acc HB.out HK.out
          have HO2 := Lib.hid ((Touch.ofBelow (F := []) HK.out).row HO.out (by simp))
          obtain ⟨h0, hh0⟩ : ∃ h0 : Bool, (!o.isSome || (o.getD 0 == me)) = h0 := ⟨_, rfl⟩
          have HH0 := Lib.hid hh0
          clear hta h1 hfs hh0 HFS HI
          cases o with
          | none =>
            obtain rfl : h0 = true := HH0.out.symm
            go_wp2_with fail
            go_loopg [11, 12] (m + 1) (fun gh s11 s12 wx => ∃ (j : Nat), j + gh = m + 1 ∧ j ≤ m ∧ s12 = .int .i64 (j : Nat) ∧ s11 = .bool true ∧ wx = wr)
            case atStart => exact ⟨0, by omega, by omega, rfl, rfl, rfl⟩
            case round =>
              obtain ⟨j, hjg, hj, rfl, rfl, rfl⟩ := hrel
              by_cases hjm : j < m
              · have j1 : (j : Int) < (m : Int) := by omega
                have zj : IntKind.i64.wrap ((j : Int) + 1) = (j : Int) + 1 := by rw [IntKind.wrap_i64]; omega
                go_wp2_with fail
                go_roundg (gk - 1)
                case measure => omega
                case rel => exact ⟨j + 1, by omega, by omega, by go_num, rfl, rfl⟩
              · obtain rfl : j = m := by omega
                go_wp2_with fail
                go_roundg (gz - 1)
                case measure => omega
                case rel => exact ⟨k + 1, c', j, A', by omega, by omega, by go_num, rfl, by rw [HFS2.out]; exact HM.out, by rw [HFS2.out]; exact HO2.out, HB2⟩
          | some b =>
            have hb0 : (b == me) = h0 := HH0.out
            go_wp2_with fail
            obtain ⟨wq, rfl⟩ : ∃ wq : World, wq = wr := ⟨_, rfl⟩
            go_loopg [11, 12] (m + 1) (fun gh s11 s12 wx => ∃ (j : Nat), j + gh = m + 1 ∧ j ≤ m ∧ s12 = .int .i64 (j : Nat) ∧ s11 = .bool (h0 || (out.take j).any fun y => y == b) ∧ wx = wq)
            case atStart => exact ⟨0, by omega, by omega, rfl, by simp, rfl⟩
            case round =>
              obtain ⟨j, hjg, hj, rfl, rfl, rfl⟩ := hrel
              by_cases hjm : j < m
              · have j1 : (j : Int) < (m : Int) := by omega
                have zj : IntKind.i64.wrap ((j : Int) + 1) = (j : Int) + 1 := by rw [IntKind.wrap_i64]; omega
                obtain ⟨b3, o3, h3⟩ := PtAt.own HO2.out HM.out
                obtain ⟨rfl, -, e3⟩ := h3 j (by rw [HM.out]; exact hjm)
                have hts := take_snoc_at out j (by rw [HM.out]; exact hjm)
                generalize out[j]'(by rw [HM.out]; exact hjm) = y at e3 hts
                have hst : (h0 || (out.take (j + 1)).any fun y => y == b) = ((h0 || (out.take j).any fun y => y == b) || (y == b)) := by rw [hts, any_snoc, Bool.or_assoc]
                generalize (h0 || (out.take j).any fun y => y == b) = q at *
                have HST := Lib.hid hst
                clear hst hts h3
                cases q
                all_goals
                  go_wp2_with fail
                  go_roundg (gk - 1)
                  case measure => omega
                  case rel => exact ⟨j + 1, by omega, by omega, by go_num, by rw [HST.out]; simp, rfl⟩
              · obtain rfl : j = m := by omega
                have hta2 : out.take j = out := List.take_of_length_le (by rw [HM.out]; exact Nat.le_refl _)
                rw [hta2]
                cases hq : (h0 || out.any fun y => y == b) with
                | true =>
                  have HC : Hid (fingersTo me seats (k + 1) = out) := by
                    rw [HFS2.out]
                    refine if_pos ?_
                    rw [← hb0] at hq
                    simpa using hq
                  clear hq hta2
                  go_wp2_with fail
                  go_roundg (gz - 1)
                  case measure => omega
                  case rel => exact ⟨k + 1, c', j, A', by omega, by omega, by go_num, rfl, by rw [HC.out]; exact HM.out, by rw [HC.out]; exact HO2.out, HB2⟩
                | false =>
                  have HC : Hid (fingersTo me seats (k + 1) = out ++ [b]) := by
                    rw [HFS2.out]
                    refine if_neg fun z => ?_
                    rw [← hb0] at hq
                    simp at hq
                    rcases z with z | z
                    · exact hq.1 z
                    · exact hq.2 b z rfl
                  clear hq hta2
                  go_wp2_with (at_builtin; go_must (refine wpList_append_own _ rfl (.tmp 70) (.tmp 72) 23 rfl W.heap.size 22 i0 z0 1 8 Try.underlying23 hi0 hz hsL hbL hzc (by decide) _ _ _ rfl (HO2.out.alloc _) ⟨wr.heap.size, 0, none⟩ 1 1 (ptC [b]) rfl rfl (pt_new wr b) (pt_one _) (by unfold maxLen; omega) (by omega) (by have := HB2.out.size; simp <;> omega) ?_); intro x2 w2 hown2 hg2 hnil2; obtain ⟨A2, c2, rfl⟩ := own_slice hown2; have HB3 := Lib.hid ((HB2.out.alloc HB2.out.size _).grown hg2 (by have := HB2.out.size; simp <;> omega) (own_lt HO2.out)); have HO3 := Lib.hid hown2; clear hown2 hg2 hnil2)
                  go_roundg (gz - 1)
                  case measure => omega
                  case rel => exact ⟨k + 1, c2, j + 1, A2, by omega, by omega, by go_num, rfl, by rw [HC.out, List.length_append, HM.out]; rfl, by rw [HC.out, ptC_append]; exact HO3.out, HB3⟩
    · obtain rfl : k = 64 := by omega
      go_wp2_with fail
      go_ret
      exact ⟨A', c', by rw [← hm]; rfl, by subst hm; exact HO.out, HB.out⟩
theorem bool_no {b : Bool} (h : ¬ b = true) : b = false := by simpa using h
/-- the whole way -/
def wayI (me aim : Int) (seats : List Int) : List Int := if me ∈ seats then me :: wayGo aim seats 100 me else []
/-- what Way answers -/
def WayPost (W : World) (me aim : Int) (seats : List Int) (e : Ending) (w' : World) : Prop :=
  ∃ A c, e = .returned (.tuple #[.slice A (wayI me aim seats).length c, .bool (decide (me ∈ seats))]) ∧ w'.ownsRow W.heap.size 22 1 (.slice A (wayI me aim seats).length c) (wayI me aim seats).length (ptC (wayI me aim seats)) ∧ Below W.heap.size W w'
theorem wayGo_len (aim : Int) (seats : List Int) : ∀ (n : Nat) (me : Int), (wayGo aim seats n me).length ≤ n
  | 0, _ => Nat.le_refl _
  | n + 1, me => by
    unfold wayGo
    cases hopI me aim (fingersI me seats) with
    | none => exact Nat.zero_le _
    | some f => have := wayGo_len aim seats n f; simp only [List.length_cons]; omega
set_option maxRecDepth 20000 in
set_option maxHeartbeats 8000000 in
theorem refWay_any (me aim : Int) (A : Option Addr) (c n : Nat) (seats : List Int) (W : World) (hA : PtAt W A seats) (hn : seats.length = n) (hl : n ≤ 100000) :
    Calls Try.prog 16 #[.int .u64 me, .int .u64 aim, .slice A n c] W (WayPost W me aim seats) := by
  obtain ⟨i0, z0, hi0, hz, hsL, hbL, hzc⟩ := infoP_
  have HA := Lib.hid hA
  have HN := Lib.hid hn
  have CF : Hid (∀ w x, PtAt w A seats → Calls Try.prog 18 #[.int .u64 x, .slice A n c] w (NewPts w (fingersI x seats))) := fun w x h => refFingers_any x A c n seats w h hn hl
  have CH : Hid (∀ w x B k, PtAt w B (fingersI x seats) → Calls Try.prog 15 #[.int .u64 x, .int .u64 aim, .slice B (fingersI x seats).length k] w fun e w' => e = .returned (hopV (hopI x aim (fingersI x seats))) ∧ Below w.heap.size w w') := fun w x B k h =>
    refHop_any x aim B k _ _ w h rfl (by have := finger_len x seats; omega)
  clear hA hn
  unfold WayPost
  obtain ⟨tot, ht⟩ : ∃ tot, wayI me aim seats = tot := ⟨_, rfl⟩
  obtain ⟨d, hd⟩ : ∃ d, decide (me ∈ seats) = d := ⟨_, rfl⟩
  rw [ht, hd]
  go_enter Try.func16, Try.ntmps16
  go_wp2
  go_loopg [8, 9] (n + 1) (fun gh s8 s9 wx => ∃ (i : Nat), i + gh = n + 1 ∧ i ≤ n ∧ s9 = .int .i64 (i : Nat) ∧ s8 = .bool ((seats.take i).any fun y => y == me) ∧ wx = W)
  case atStart => exact ⟨0, by omega, by omega, rfl, rfl, rfl⟩
  case round =>
    obtain ⟨i, hig, hi, rfl, rfl, rfl⟩ := hrel
    by_cases hlt : i < n
    · have i1 : (i : Int) < (n : Int) := by omega
      have zi : IntKind.i64.wrap ((i : Int) + 1) = (i : Int) + 1 := by rw [IntKind.wrap_i64]; omega
      obtain ⟨b3, o3, h3⟩ := HA.out
      obtain ⟨rfl, -, e3⟩ := h3 i (by rw [HN.out]; exact hlt)
      have hts := take_snoc_at seats i (by rw [HN.out]; exact hlt)
      generalize seats[i]'(by rw [HN.out]; exact hlt) = y at e3 hts
      have hst : ((seats.take (i + 1)).any fun y => y == me) = (((seats.take i).any fun y => y == me) || (y == me)) := by rw [hts, any_snoc]
      generalize ((seats.take i).any fun y => y == me) = q at *
      have HST := Lib.hid hst
      clear hst hts h3
      cases q
      all_goals
        go_wp2_with fail
        go_roundg (gk - 1)
        case measure => omega
        case rel => exact ⟨i + 1, by omega, by omega, by go_num, by rw [HST.out]; simp, rfl⟩
    · obtain rfl : i = n := by omega
      have hta : seats.take i = seats := List.take_of_length_le (by rw [HN.out]; exact Nat.le_refl _)
      rw [hta]
      clear hta
      by_cases hme : me ∈ seats
      · have ha : (seats.any fun y => y == me) = true := (any_mem seats me).2 hme
        have hw : wayI me aim seats = me :: wayGo aim seats 100 me := if_pos hme
        rw [ht] at hw
        obtain rfl : d = true := by rw [← hd]; exact decide_eq_true hme
        rw [ha]
        have HT := Lib.hid hw
        clear ha hme ht hw hd
        go_wp2_with fail
        have HO0 : Hid ((wr.alloc (.cells #[.int .u64 me] 22)).ownsRow wr.heap.size 22 1 (.slice (some ⟨wr.heap.size, 0, none⟩) 1 1) 1 (ptC [me])) := World.ownsRow_lit (size := 1) wr #[.int .u64 me] 1 (Nat.le_refl _) (by unfold maxLen; omega) rfl
        have HB0 : Hid (Below wr.heap.size wr (wr.alloc (.cells #[.int .u64 me] 22))) := (Below.refl _ _).alloc (Nat.le_refl _) _
        obtain ⟨wo, rfl⟩ : ∃ wo : World, wo = wr := ⟨_, rfl⟩
        go_loopg [0, 10, 11, 12, 13] 101 (fun gh s0 s10 s11 s12 s13 wx => ∃ (k m c' : Nat) (cur : Int) (pre : List Int) (A' : Option Addr), k + gh = 101 ∧ k ≤ 100 ∧ s11 = .int .i64 (k : Nat) ∧ s0 = .int .u64 cur ∧ s10 = .slice A' m c' ∧ pre.length = m ∧ m ≤ k + 1 ∧ Hid (tot = pre ++ wayGo aim seats (100 - k) cur) ∧
          Hid (wx.ownsRow wo.heap.size 22 1 (.slice A' m c') m (ptC pre)) ∧ Hid (Below wo.heap.size wo wx))
        case atStart => exact ⟨0, 1, 1, me, [me], _, by omega, by omega, rfl, rfl, rfl, rfl, by omega, HT.out, HO0, HB0⟩
        case round =>
          obtain ⟨k, m, c', cur, pre, A', hkg, hk, rfl, rfl, rfl, hm, hmk, HQ, HO, HB⟩ := hrel
          by_cases hk1 : k < 100
          · have k1 : (k : Int) < 100 := by omega
            have zk : IntKind.i64.wrap ((k : Int) + 1) = (k : Int) + 1 := by rw [IntKind.wrap_i64]; omega
            have hq := HQ.out
            rw [show 100 - k = (99 - k) + 1 by omega] at hq
            unfold wayGo at hq
            have ch := CH.out
            cases hh : hopI cur aim (fingersI cur seats) with
            | none =>
              rw [hh] at hq
              have hq : tot = pre := by rw [hq]; exact List.append_nil _
              subst hq
              have CHN : Hid (∀ w B j, PtAt w B (fingersI cur seats) → Calls Try.prog 15 #[.int .u64 cur, .int .u64 aim, .slice B (fingersI cur seats).length j] w fun e w' => e = .returned (.tuple #[.int .u64 0, .bool false]) ∧ Below w.heap.size w w') := fun w B j h => by
                have z := ch w cur B j h
                rw [hh] at z
                exact z
              clear ch hh HQ
              go_wp2_with (first
                | (go_at_call 18; (with_reducible refine (CF.out _ _ (HA.out.below HB.out)).mono ?_); rintro e w2 ⟨A2, c2, rfl, ho2, hb2⟩; have HP2 : Hid (PtAt w2 A2 (fingersI cur seats)) := PtAt.own ho2 rfl; have HB2 : Hid (Below wo.heap.size wo w2) := acc HB.out hb2; have HO2 := Lib.hid ((Touch.ofBelow (F := []) hb2).row HO.out (by simp)); clear ho2 hb2)
                | (go_at_call 15; (with_reducible refine (CHN.out _ _ _ HP2.out).mono ?_); rintro e w3 ⟨rfl, hb3⟩; have HB3 : Hid (Below wo.heap.size wo w3) := acc HB2.out hb3; have HO3 := Lib.hid ((Touch.ofBelow (F := []) hb3).row HO2.out (by simp)); clear hb3))
              go_ret2
              subst hm
              exact ⟨A', c', rfl, HO3.out, HB3.out⟩
            | some f =>
              rw [hh] at hq
              have HQ2 : Hid (tot = (pre ++ [f]) ++ wayGo aim seats (99 - k) f) := hq.trans (List.append_assoc pre [f] (wayGo aim seats (99 - k) f)).symm
              have CHS : Hid (∀ w B j, PtAt w B (fingersI cur seats) → Calls Try.prog 15 #[.int .u64 cur, .int .u64 aim, .slice B (fingersI cur seats).length j] w fun e w' => e = .returned (.tuple #[.int .u64 f, .bool true]) ∧ Below w.heap.size w w') := fun w B j h => by
                have z := ch w cur B j h
                rw [hh] at z
                exact z
              have HM := Lib.hid hm
              clear ch hh HQ hq hm
              go_wp2_with (first
                | (go_at_call 18; (with_reducible refine (CF.out _ _ (HA.out.below HB.out)).mono ?_); rintro e w2 ⟨A2, c2, rfl, ho2, hb2⟩; have HP2 : Hid (PtAt w2 A2 (fingersI cur seats)) := PtAt.own ho2 rfl; have HB2 : Hid (Below wo.heap.size wo w2) := acc HB.out hb2; have HO2 := Lib.hid ((Touch.ofBelow (F := []) hb2).row HO.out (by simp)); clear ho2 hb2)
                | (go_at_call 15; (with_reducible refine (CHS.out _ _ _ HP2.out).mono ?_); rintro e w3 ⟨rfl, hb3⟩; have HB3 : Hid (Below wo.heap.size wo w3) := acc HB2.out hb3; have HO3 := Lib.hid ((Touch.ofBelow (F := []) hb3).row HO2.out (by simp)); clear hb3)
                | (at_builtin; go_must (refine wpList_append_own _ rfl (.tmp 49) (.tmp 51) 23 rfl wo.heap.size 22 i0 z0 1 8 Try.underlying23 hi0 hz hsL hbL hzc (by decide) _ _ _ rfl (HO3.out.alloc _) ⟨w3.heap.size, 0, none⟩ 1 1 (ptC [f]) rfl rfl (pt_new w3 f) (pt_one _) (by unfold maxLen; omega) (by omega) (by have := HB3.out.size; simp <;> omega) ?_); intro x4 w4 hown4 hg4 hnil4; obtain ⟨A4, c4, rfl⟩ := own_slice hown4; have HB4 := Lib.hid ((HB3.out.alloc HB3.out.size _).grown hg4 (by have := HB3.out.size; simp <;> omega) (own_lt HO3.out)); have HO4 := Lib.hid hown4; clear hown4 hg4 hnil4))
              go_roundg (gk - 1)
              case measure => omega
              case rel => exact ⟨k + 1, m + 1, c4, f, pre ++ [f], A4, by omega, by omega, by go_num, rfl, rfl, by rw [List.length_append, HM.out]; rfl, by omega, by rw [show 100 - (k + 1) = 99 - k by omega]; exact HQ2, by rw [ptC_append]; exact HO4.out, HB4⟩
          · obtain rfl : k = 100 := by omega
            have hq : tot = pre := by rw [HQ.out]; exact List.append_nil _
            subst hq
            go_wp2_with fail
            go_ret2
            subst hm
            exact ⟨A', c', rfl, HO.out, HB.out⟩
      · have ha : (seats.any fun y => y == me) = false := by
          refine bool_no fun z => hme ((any_mem seats me).1 z)
        have hw : wayI me aim seats = [] := if_neg hme
        rw [ht] at hw
        subst hw
        obtain rfl : d = false := by rw [← hd]; exact decide_eq_false hme
        rw [ha]
        clear ha hme ht hd
        go_wp2_with fail
        go_ret2
        exact ⟨none, 0, rfl, World.ownsRow_nil _ _ _ _, Below.refl _ _⟩
end Go.Proofs.Ytfpoapmbpbkibaa
