/-
  The document's Pick.
-/
import Derived.Test.YtpgolebikjjdlaaSeatRef
namespace Go.Proofs.Ytpgolebikjjdlaa
open Go.RowKit Pb

def farI (a b : Int) : Int := IntKind.u64.wrap (b - a)
theorem farI_range (a b : Int) : 0 ≤ farI a b ∧ farI a b < 18446744073709551616 := by unfold farI; rw [IntKind.wrap_u64]; omega
/-- how far it is to the next one of all -/
def roomI (p : Int) : List Int → Int
  | [] => 0
  | t :: r => r.foldl (fun m x => if farI p x < m then farI p x else m) (farI p t)
theorem roomI_nil (p x : Int) : roomI p ([] ++ [x]) = farI p x := rfl
theorem roomI_snoc (p x : Int) (ts : List Int) (h : ts ≠ []) : roomI p (ts ++ [x]) = if farI p x < roomI p ts then farI p x else roomI p ts := by
  cases ts with
  | nil => exact absurd rfl h
  | cons t r => show List.foldl _ _ (r ++ [x]) = _; rw [List.foldl_append]; rfl
def freeI (p : Int) (ts : List Int) : Bool := ts.all fun x => !(farI p x == 0)
theorem freeI_snoc (p x : Int) (ts : List Int) : freeI p (ts ++ [x]) = (freeI p ts && !(farI p x == 0)) := by simp [freeI]
/-- what is known of a seat: the room, where, whether any -/
def pickStep (ts : List Int) (s : Int × Int × Bool) (p : Int) : Int × Int × Bool :=
  if freeI p ts && (!s.2.2 || decide (s.1 < roomI p ts)) then (roomI p ts, p, true) else s
def pickS (ts l : List Int) : Int × Int × Bool := l.foldl (pickStep ts) (0, 0, false)
theorem pickS_snoc (ts l : List Int) (p : Int) : pickS ts (l ++ [p]) = pickStep ts (pickS ts l) p := by simp [pickS, List.foldl_append]
def pickI (id salt : Int) (ts : List Int) : Int × Bool := if ts = [] then (seatI id salt 0, true) else (pickS ts (seatsI id salt 4)).2
def pickV (id salt : Int) (ts : List Int) : Value := .tuple #[.int .u64 (pickI id salt ts).1, .bool (pickI id salt ts).2]
theorem take_snoc_at (l : List Int) (i : Nat) (h : i < l.length) : l.take (i + 1) = l.take i ++ [l[i]] := by
  rw [List.take_succ_eq_append_getElem h]

set_option maxRecDepth 20000 in
set_option maxHeartbeats 4000000 in
theorem refPick_any (id salt : Int) (A : Option Addr) (c n : Nat) (ts : List Int) (W : World) (hA : PtAt W A ts) (hn : ts.length = n) (hl : n ≤ 100000) :
    Calls Try.prog 14 #[.int .i64 id, .int .i64 salt, .slice A n c] W fun e w' =>
      e = .returned (pickV id salt ts) ∧ Below W.heap.size W w' := by
  have HA := Lib.hid hA
  have HN := Lib.hid hn
  obtain ⟨l, hs⟩ : ∃ l, seatsI id salt 4 = l := ⟨_, rfl⟩
  have hll : l.length = 4 := by rw [← hs, seatsI_length]
  have hl0 : l[0]? = some (seatI id salt 0) := by subst hs; rfl
  have CM := Lib.hid (refSeats_any id salt)
  rw [hs] at CM
  have HV1 : Hid (ts = [] → pickV id salt ts = .tuple #[.int .u64 (seatI id salt 0), .bool true]) := fun h => by simp [pickV, pickI, h]
  have HV2 : Hid (ts ≠ [] → pickV id salt ts = .tuple #[.int .u64 (pickS ts l).2.1, .bool (pickS ts l).2.2]) := fun h => by simp [pickV, pickI, h, hs]
  generalize pickV id salt ts = V at *
  have HL := Lib.hid hll
  have HL0 := Lib.hid hl0
  clear hA hn hs hl0 hll
  go_enter Try.func14, Try.ntmps14
  go_wp2_with (go_at_call 9; (with_reducible refine (CM.out _).mono ?_); rintro e w1 ⟨Al, cl, rfl, hown1, hb1⟩; rw [HL.out] at hown1; rw [HL.out]; have HB1 := Lib.hid hb1; have HO1 : Hid (PtAt w1 Al l) := Lib.hid (PtAt.own hown1 HL.out); clear hb1 hown1)
  go_loopg [8, 9, 10, 12, 13, 14, 15, 16] 5 (fun gh s8 s9 s10 s12 s13 s14 s15 s16 wx => ∃ (i : Nat) (S : Int × Int × Bool), i + gh = 5 ∧ i ≤ 4 ∧ s12 = .int .i64 (i : Nat) ∧ s8 = .int .u64 S.1 ∧ s9 = .int .u64 S.2.1 ∧ s10 = .bool S.2.2 ∧ Hid (S = pickS ts (l.take i)) ∧ Hid (ts = [] → i = 0) ∧ Hid (Below w1.heap.size w1 wx))
  case atStart => exact ⟨0, (0, 0, false), by omega, by omega, rfl, rfl, rfl, rfl, rfl, fun _ => rfl, Below.refl _ _⟩
  case round =>
    obtain ⟨i, ⟨S1, S2, S3⟩, hig, hi, rfl, rfl, rfl, rfl, HS, HE, HB⟩ := hrel
    by_cases hlt : i < 4
    · have i1 : (i : Int) < 4 := by omega
      obtain ⟨p, hp⟩ : ∃ p, l[i]'(by rw [HL.out]; exact hlt) = p := ⟨_, rfl⟩
      have HP := Lib.hid hp
      clear hp
      go_wp2
      obtain ⟨gz, rfl⟩ : ∃ gz : Nat, gz = gk := ⟨_, rfl⟩
      obtain ⟨wo, rfl⟩ : ∃ wo : World, wo = wr := ⟨_, rfl⟩
      go_loopg [13, 14, 15, 16] (n + 1) (fun gh s13 s14 s15 s16 wx => ∃ (k : Nat), k + gh = n + 1 ∧ k ≤ n ∧ s15 = .int .i64 (k : Nat) ∧ s13 = .int .u64 (roomI p (ts.take k)) ∧ s14 = .bool (freeI p (ts.take k)) ∧ Hid (Below w1.heap.size w1 wx))
      case atStart => exact ⟨0, by omega, by omega, rfl, rfl, rfl, HB⟩
      case round =>
        obtain ⟨k, hkg, hk, rfl, rfl, rfl, HK⟩ := hrel
        by_cases hkn : k < n
        · have k1 : (k : Int) < (n : Int) := by omega
          have zk : IntKind.i64.wrap ((k : Int) + 1) = (k : Int) + 1 := by rw [IntKind.wrap_i64]; omega
          obtain ⟨b1, o1, h1⟩ := (HA.out.below HB1.out).below HK.out
          obtain ⟨b2, o2, h2⟩ := HO1.out.below HK.out
          obtain ⟨rfl, -, e1⟩ := h1 k (by rw [HN.out]; exact hkn)
          obtain ⟨rfl, -, e2⟩ := h2 i (by rw [HL.out]; exact hlt)
          rw [HP.out] at e2
          have hts := take_snoc_at ts k (by rw [HN.out]; exact hkn)
          generalize ts[k]'(by rw [HN.out]; exact hkn) = x at e1 hts
          have hr1 : k = 0 → roomI p (ts.take (k + 1)) = farI p x := fun h => by subst h; rw [hts]; rfl
          have hr2 : k ≠ 0 → roomI p (ts.take (k + 1)) = if farI p x < roomI p (ts.take k) then farI p x else roomI p (ts.take k) := fun h => by
            rw [hts]
            exact roomI_snoc _ _ _ fun h0 => by have := congrArg List.length h0; rw [List.length_take, HN.out] at this; simp at this; omega
          have hf : freeI p (ts.take (k + 1)) = (freeI p (ts.take k) && !(farI p x == 0)) := by rw [hts, freeI_snoc]
          generalize roomI p (ts.take k) = m at *
          generalize freeI p (ts.take k) = f at *
          obtain ⟨d, hd⟩ : ∃ d, farI p x = d := ⟨_, rfl⟩
          rw [hd] at hr1 hr2 hf
          have zd : IntKind.u64.wrap (x - p) = d := hd
          have HR1 := Lib.hid hr1
          have HR2 := Lib.hid hr2
          have HF := Lib.hid hf
          clear h1 h2 hr1 hr2 hf hts hd
          have hc : (d = 0 ∨ ¬ d = 0) ∧ (((k : Int) = 0) ∨ (¬ (k : Int) = 0 ∧ (d < m ∨ ¬ d < m))) := by omega
          obtain ⟨hc1, hc2⟩ := hc
          go_upto_region 10 with fail
          go_quiet (fail)
          rcases hc1 with rfl | hc1 <;> rcases hc2 with hc2 | ⟨hc2, hc3 | hc3⟩
          all_goals
            go_wp2
            go_roundg (gk - 1)
            case measure => omega
            case rel =>
              have hkk : (k = 0 ↔ (k : Int) = 0) := by omega
              have g1 := HR1.out
              have g2 := HR2.out
              have g3 := HF.out
              refine ⟨k + 1, by omega, by omega, by go_num, ?_, ?_, below_drewN HK.out _⟩
              · first
                | (rw [g1 (by omega)] <;> rfl)
                | (rw [g2 (by omega), if_pos (by omega)] <;> rfl)
                | (rw [g2 (by omega), if_neg (by omega)] <;> rfl)
              · rw [g3]
                first
                | (cases f <;> rfl)
                | (rw [show (d == 0) = false from beq_eq_false_iff_ne.2 (by omega)]; cases f <;> rfl)
        · obtain rfl : n = k := by omega
          have hta : ts.take n = ts := List.take_of_length_le (by rw [HN.out]; exact Nat.le_refl _)
          rw [hta]
          clear hta
          obtain ⟨b2, o2, h2⟩ := HO1.out.below HK.out
          by_cases hn0 : n = 0
          · subst hn0
            have hte : ts = [] := List.length_eq_zero_iff.1 HN.out
            obtain rfl : i = 0 := HE.out hte
            obtain ⟨rfl, -, e2⟩ := h2 0 (by rw [HL.out]; omega)
            have e3 : l[0]'(by rw [HL.out]; omega) = seatI id salt 0 := by
              have h := HL0.out
              rw [List.getElem?_eq_getElem (by rw [HL.out]; omega)] at h
              exact Option.some.inj h
            rw [e3, Nat.add_zero] at e2
            have HTE := Lib.hid hte
            clear h2 e3 hte
            go_wp2_with fail
            go_ret2
            rw [HV1.out HTE.out]
            exact ⟨rfl, HB1.out.trans (HK.out.mono HB1.out.size)⟩
          · have hn1 : ¬ ((n : Int) = 0) := by omega
            have zi : IntKind.i64.wrap ((i : Int) + 1) = (i : Int) + 1 := by rw [IntKind.wrap_i64]; omega
            obtain ⟨rfl, -, e2⟩ := h2 i (by rw [HL.out]; exact hlt)
            rw [HP.out] at e2
            have hst : pickS ts (l.take (i + 1)) = pickStep ts (S1, S2, S3) p := by
              rw [take_snoc_at l i (by rw [HL.out]; exact hlt), pickS_snoc, HP.out, ← HS.out]
            have HTE : Hid (ts ≠ []) := fun h => hn0 (by have := HN.out; rw [h] at this; exact this.symm)
            unfold pickStep at hst
            generalize roomI p ts = m at *
            generalize freeI p ts = f at *
            have HN2 := Lib.hid hst
            clear hst h2
            have hc : S1 < m ∨ ¬ S1 < m := by omega
            cases f with
            | false =>
              go_wp2
              go_roundg (gz - 1)
              case measure => omega
              case rel =>
                have g1 := HN2.out
                simp at g1
                (try have hc3 : ¬ S1 < m := by omega)
                (try rw [if_neg hc3] at g1)
                exact ⟨i + 1, (S1, S2, S3), by omega, by omega, by go_num, rfl, rfl, rfl, g1.symm, fun h => absurd h HTE.out, HK.out⟩
            | true =>
              cases S3 with
              | false =>
                go_upto_region 18 with fail
                go_quiet (fail)
                go_wp2
                go_roundg (gz - 1)
                case measure => omega
                case rel =>
                  have g1 := HN2.out
                  simp at g1
                  exact ⟨i + 1, (m, p, true), by omega, by omega, by go_num, rfl, rfl, rfl, g1.symm, fun h => absurd h HTE.out, below_drewN HK.out _⟩
              | true =>
                rcases hc with hc | hc
                · (skip)
                  go_upto_region 18 with fail
                  go_quiet (fail)
                  go_wp2
                  go_roundg (gz - 1)
                  case measure => omega
                  case rel =>
                    have g1 := HN2.out
                    rw [show decide (S1 < m) = true from decide_eq_true (by omega)] at g1
                    simp at g1
                    exact ⟨i + 1, (m, p, true), by omega, by omega, by go_num, rfl, rfl, rfl, g1.symm, fun h => absurd h HTE.out, below_drewN HK.out _⟩
                · (skip)
                  go_wp2
                  go_roundg (gz - 1)
                  case measure => omega
                  case rel =>
                    have g1 := HN2.out
                    rw [show decide (S1 < m) = false from decide_eq_false (by omega)] at g1
                    simp at g1
                    (try have hc3 : ¬ S1 < m := by omega)
                    (try rw [if_neg hc3] at g1)
                    exact ⟨i + 1, (S1, S2, true), by omega, by omega, by go_num, rfl, rfl, rfl, g1.symm, fun h => absurd h HTE.out, HK.out⟩
    · obtain rfl : i = 4 := by omega
      have hta : l.take 4 = l := List.take_of_length_le (by rw [HL.out]; exact Nat.le_refl _)
      go_wp2_with fail
      go_ret2
      have h0 : ts ≠ [] := fun h => absurd (HE.out h) (by decide)
      have h1 := HS.out
      rw [hta] at h1
      rw [HV2.out h0, ← h1]
      exact ⟨rfl, HB1.out.trans (HB.out.mono HB1.out.size)⟩
end Go.Proofs.Ytpgolebikjjdlaa
