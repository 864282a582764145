/-
  A seat knows few others, itself never, and always the next one (FingerFew).
-/
import Derived.Test.YtfpoapmbpbkibaaFingLawC
namespace Go.Proofs.Ytfpoapmbpbkibaa
open Go.RowKit Pb

/-- the others, and the next of them -/
def nextI (me : Int) (l : List Int) : Option Int := nearI me (l.filter fun x => x != me)
theorem nextI_snoc (me : Int) (l : List Int) (x : Int) : nextI me (l ++ [x]) = if x != me then nearStep me (nextI me l) x else nextI me l := by
  unfold nextI
  rw [List.filter_append]
  cases h : x != me with
  | true => rw [List.filter_cons_of_pos (by exact h), List.filter_nil, nearI_snoc]; rfl
  | false => rw [List.filter_cons_of_neg (by rw [h]; decide), List.filter_nil, List.append_nil]; rfl
theorem next_none {me : Int} {seats : List Int} (h : nextI me seats = none) : fingersI me seats = [] := by
  have h1 := (near_ok me (seats.filter fun x => x != me)).1 h
  refine List.eq_nil_iff_forall_not_mem.2 fun x hx => ?_
  obtain ⟨g1, g2⟩ := finger_seat hx
  have : x ∈ seats.filter fun x => x != me := List.mem_filter.2 ⟨g1, bne_iff_ne.2 g2⟩
  rw [h1] at this
  cases this
theorem next_finger {me b : Int} {seats : List Int} (hme : Pt me) (hp : ∀ s ∈ seats, Pt s) (h : nextI me seats = some b) : b ∈ fingersI me seats := by
  obtain ⟨g1, g2⟩ := (near_ok me (seats.filter fun x => x != me)).2 b h
  obtain ⟨g3, g4⟩ := List.mem_filter.1 g1
  have g4 : b ≠ me := bne_iff_ne.1 g4
  have pb := hp b g3
  obtain ⟨u, hu, u1, u2⟩ := near_some (f := upI me 0) (l := seats) (fun e => by rw [e] at g3; cases g3)
  have e2 := u2 b g3
  have d0 := far_pos hme pb (Ne.symm g4)
  have p0 : pow2 0 = 1 := rfl
  have e1 : farI (upI me 0) b = farI me b - 1 := far_down (by decide) (by omega)
  have r1 := farI_range me b
  have r2 := farI_range (upI me 0) u
  have e3 : farI me u = 1 + farI (upI me 0) u := far_up (by decide) (by show 1 + farI (upI me 0) u < _; omega)
  have hune : u ≠ me := fun e => by
    rw [e, far_self] at e3
    rw [e] at r2
    omega
  have e4 := g2 u (List.mem_filter.2 ⟨u1, bne_iff_ne.2 hune⟩)
  have pu := hp u u1
  have e5 : u = b := by
    have h5 : farI me u = farI me b := by omega
    rw [far_eq, far_eq] at h5
    omega
  subst e5
  exact (finger_iff me seats u).2 ⟨g4, 0, by decide, hu⟩
set_option maxRecDepth 20000 in
set_option maxHeartbeats 8000000 in
theorem fingerFew_any (L : FingLaws) (me : Int) (A : Option Addr) (c n : Nat) (seats : List Int) (W : World) (hme : Pt me) (hp : ∀ s ∈ seats, Pt s) (hA : PtAt W A seats) (hn : seats.length = n) :
    Calls Try.prog 5 #[.int .u64 me, .slice A n c] W fun e w' => e = .returned (.bool true) ∧ Below W.heap.size W w' := by
  have CA := Lib.hid (fingAlive_any L)
  by_cases q0 : 60 < n
  · have d0 : decide (60 < (n : Int)) = true := decide_eq_true (by omega)
    go_enter Try.func5, Try.ntmps5
    go_wp2_with (go_at_call 9; (with_reducible refine (CA.out _).mono ?_); rintro e w1 ⟨rfl, h1⟩)
    go_ret
    exact ⟨rfl, h1⟩
  have d0 : decide (60 < (n : Int)) = false := decide_eq_false (by omega)
  have hnn : ∀ o, nextI me seats = o → (o = none → fingersI me seats = []) ∧ ∀ b, o = some b → b ∈ fingersI me seats := fun o ho =>
    ⟨fun z => next_none (ho.trans z), fun b z => next_finger hme hp (ho.trans z)⟩
  have hme2 : ∀ x ∈ fingersI me seats, x ≠ me := fun x hx => (finger_seat hx).2
  have hnd := finger_nodup me seats
  have hfl := finger_len me seats
  have CF : Hid (∀ w, PtAt w A seats → Calls Try.prog 11 #[.int .u64 me, .slice A n c] w (NewPts w (fingersI me seats))) := fun w h => L.fingers me A c n seats w hme hp h hn (by omega)
  unfold NewPts at CF
  generalize fingersI me seats = fs at *
  obtain ⟨m, hm⟩ : ∃ m, fs.length = m := ⟨_, rfl⟩
  rw [hm] at CF hfl
  have HA := Lib.hid hA
  have HN := Lib.hid hn
  have HNN := Lib.hid hnn
  have HME := Lib.hid hme2
  have HND := Lib.hid hnd
  have HM := Lib.hid hm
  have dm : decide (64 < (m : Int)) = false := decide_eq_false (by omega)
  clear hA hn hnn hme2 hnd hp hme hm
  go_enter Try.func5, Try.ntmps5
  go_wp2_with (first
    | (go_at_call 9; (with_reducible refine (CA.out _).mono ?_); rintro e w1 ⟨rfl, h1⟩; have H1 := Lib.hid h1; clear h1)
    | (go_at_call 11; (with_reducible refine (CF.out _ (HA.out.below H1.out)).mono ?_); rintro e w2 ⟨B, d, rfl, ho, h2⟩; have HF : Hid (PtAt w2 B fs) := PtAt.own ho HM.out; have H2 : Hid (Below W.heap.size W w2) := acc H1.out h2; clear h2 ho))
  obtain ⟨ws, rfl⟩ : ∃ ws : World, ws = w2 := ⟨_, rfl⟩
  go_loopg [6, 7, 9, 30] (n + 1) (fun gh s6 s7 s9 s30 wx => ∃ (i : Nat) (o : Option Int), i + gh = n + 1 ∧ i ≤ n ∧ s30 = .int .i64 (i : Nat) ∧ s6 = .int .u64 (o.getD 0) ∧ s7 = .bool o.isSome ∧ Hid (o = nextI me (seats.take i)) ∧ Hid (Below ws.heap.size ws wx))
  case atStart => exact ⟨0, none, by omega, by omega, rfl, rfl, rfl, rfl, Below.refl _ _⟩
  case round =>
    obtain ⟨i, o, hig, hin, rfl, rfl, rfl, HI, HK⟩ := hrel
    by_cases hlt2 : i < n
    · have i2 : (i : Int) < (n : Int) := by omega
      have zi : IntKind.i64.wrap ((i : Int) + 1) = (i : Int) + 1 := by rw [IntKind.wrap_i64]; omega
      obtain ⟨b1, o1, h1⟩ := HA.out.below (acc H2.out HK.out)
      obtain ⟨rfl, -, e1⟩ := h1 i (by rw [HN.out]; exact hlt2)
      have hts := take_snoc_at seats i (by rw [HN.out]; exact hlt2)
      generalize seats[i]'(by rw [HN.out]; exact hlt2) = f at e1 hts
      have hst : nextI me (seats.take (i + 1)) = if f != me then nearStep me o f else o := by rw [hts, nextI_snoc, ← HI.out]
      obtain ⟨d1, hd1⟩ : ∃ d, farI me f = d := ⟨_, rfl⟩
      have z1 : IntKind.u64.wrap (f - me) = d1 := hd1
      clear hts h1
      cases hc : f != me with
      | false =>
        rw [hc] at hst
        have HST := Lib.hid hst
        clear hst hd1
        cases o
        all_goals
          go_wp2_with fail
          go_roundg (gk - 1)
          case measure => omega
          case rel => exact ⟨i + 1, _, by omega, by omega, by go_num, rfl, rfl, HST.out.symm, HK⟩
      | true =>
        rw [hc, if_pos rfl] at hst
        cases o with
        | none =>
          have HST := Lib.hid hst
          clear hst hd1
          go_wp2_with fail
          go_roundg (gk - 1)
          case measure => omega
          case rel => exact ⟨i + 1, some f, by omega, by omega, by go_num, rfl, rfl, HST.out.symm, HK⟩
        | some b =>
          obtain ⟨d2, hd2⟩ : ∃ d, farI me b = d := ⟨_, rfl⟩
          have z2 : IntKind.u64.wrap (b - me) = d2 := hd2
          have hst2 : nearStep me (some b) f = if d1 < d2 then some f else some b := by unfold nearStep; simp only; rw [hd1, hd2]
          by_cases c3 : d1 < d2
          · have b3 : decide (d1 < d2) = true := decide_eq_true c3
            have HC : Hid (nextI me (seats.take (i + 1)) = some f) := (hst.trans hst2).trans (if_pos c3)
            clear hd1 hd2 hst2 hst
            go_wp2_with fail
            go_roundg (gk - 1)
            case measure => omega
            case rel => exact ⟨i + 1, some f, by omega, by omega, by go_num, rfl, rfl, HC.out.symm, HK⟩
          · have b3 : decide (d1 < d2) = false := decide_eq_false c3
            have HC : Hid (nextI me (seats.take (i + 1)) = some b) := (hst.trans hst2).trans (if_neg c3)
            clear hd1 hd2 hst2 hst
            go_wp2_with fail
            go_roundg (gk - 1)
            case measure => omega
            case rel => exact ⟨i + 1, some b, by omega, by omega, by go_num, rfl, rfl, HC.out.symm, HK⟩
    · obtain rfl : n = i := by omega
      have hta : seats.take n = seats := List.take_of_length_le (by rw [HN.out]; exact Nat.le_refl _)
      have h1 := HI.out
      rw [hta] at h1
      obtain ⟨g1, g2⟩ := HNN.out o h1.symm
      have G1 := Lib.hid g1
      have G2 := Lib.hid g2
      clear g1 g2 h1 hta HI
      go_wp2_with fail
      obtain ⟨wz, rfl⟩ : ∃ wz : World, wz = wr := ⟨_, rfl⟩
      obtain ⟨nx, hnx⟩ : ∃ nx, o.getD 0 = nx := ⟨_, rfl⟩
      rw [hnx]
      go_loopg [10, 11, 12, 13, 54] (m + 1) (fun gh s10 s11 s12 s13 s54 wx => ∃ (j : Nat), j + gh = m + 1 ∧ j ≤ m ∧ s54 = .int .i64 (j : Nat) ∧ s10 = .bool ((fs.take j).any fun y => y == nx) ∧ wx = wz)
      case atStart => exact ⟨0, by omega, by omega, rfl, rfl, rfl⟩
      case round =>
        obtain ⟨j, hjg, hj, rfl, rfl, rfl⟩ := hrel
        by_cases hlt3 : j < m
        · have j1 : (j : Int) < (m : Int) := by omega
          have zj : IntKind.i64.wrap ((j : Int) + 1) = (j : Int) + 1 := by rw [IntKind.wrap_i64]; omega
          obtain ⟨b1, o1, h1⟩ := HF.out.below HK.out
          have HH1 := Lib.hid h1
          have hjl : j < fs.length := by rw [HM.out]; exact hlt3
          obtain ⟨rfl, -, e1⟩ := h1 j hjl
          have hts := take_snoc_at fs j hjl
          have hne : (fs[j] == me) = false := beq_eq_false_iff_ne.2 (HME.out _ (List.getElem_mem hjl))
          have hnd : Hid (∀ k (hk : k < j), (fs[k]'(by omega) == fs[j]) = false) := fun k hk => beq_eq_false_iff_ne.2 fun e => by
            exact (List.pairwise_iff_getElem.1 HND.out) k j (by omega) hjl hk e
          generalize fs[j] = x at e1 hts hne hnd
          have hst : ((fs.take (j + 1)).any fun y => y == nx) = (((fs.take j).any fun y => y == nx) || (x == nx)) := by rw [hts, any_snoc]
          generalize ((fs.take j).any fun y => y == nx) = q at *
          have HST := Lib.hid hst
          clear hst hts h1
          obtain ⟨gz, rfl⟩ : ∃ gz : Nat, gz = gk := ⟨_, rfl⟩
          cases q
          all_goals
            go_wp2_with fail
            go_loopg [13] (j + 1) (fun gh s13 wx => ∃ (k : Nat), k + gh = j + 1 ∧ k ≤ j ∧ s13 = .int .i64 (k : Nat) ∧ wx = wr)
            case atStart => exact ⟨0, by omega, by omega, rfl, rfl⟩
            case round =>
              obtain ⟨k, hkg, hk, rfl, rfl⟩ := hrel
              by_cases hkj : k < j
              · have k1 : (k : Int) < (j : Int) := by omega
                have k2 : (k : Int) < (m : Int) := by omega
                have zk : IntKind.i64.wrap ((k : Int) + 1) = (k : Int) + 1 := by rw [IntKind.wrap_i64]; omega
                obtain ⟨-, -, e2⟩ := HH1.out k (by omega)
                have hn2 := hnd.out k hkj
                generalize fs[k]'(by omega) = y at e2 hn2
                go_wp2_with fail
                go_roundg (gk - 1)
                case measure => omega
                case rel => exact ⟨k + 1, by omega, by omega, by go_num, rfl⟩
              · obtain rfl : j = k := by omega
                go_wp2_with fail
                go_roundg (gz - 1)
                case measure => omega
                case rel => exact ⟨j + 1, by omega, by omega, by go_num, by rw [HST.out]; rfl, rfl⟩
        · obtain rfl : m = j := by omega
          have hta : fs.take m = fs := List.take_of_length_le (by rw [HM.out]; exact Nat.le_refl _)
          rw [hta]
          cases o with
          | none =>
            obtain rfl := G1.out rfl
            obtain rfl : 0 = m := HM.out
            go_wp2_with fail
            go_ret
            exact ⟨rfl, acc H2.out HK.out⟩
          | some b =>
            obtain rfl : b = nx := hnx
            have hin := (any_mem fs b).2 (G2.out b rfl)
            rw [hin]
            go_wp2_with fail
            go_ret
            exact ⟨rfl, acc H2.out HK.out⟩
end Go.Proofs.Ytfpoapmbpbkibaa
