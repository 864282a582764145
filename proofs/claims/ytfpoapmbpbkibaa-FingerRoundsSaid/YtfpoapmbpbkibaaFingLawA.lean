/-
  From where nothing lies between there is no hop; a way from what is no seat is none (FingerStops).
-/
import Derived.Test.YtfpoapmbpbkibaaFingBase
namespace Go.Proofs.Ytfpoapmbpbkibaa
open Go.RowKit Pb

def betB (me aim : Int) (l : List Int) : Bool := l.any fun s => (s != me) && decide (farI me s ≤ farI me aim)
theorem betB_snoc (me aim : Int) (l : List Int) (x : Int) : betB me aim (l ++ [x]) = (betB me aim l || ((x != me) && decide (farI me x ≤ farI me aim))) := by simp [betB]
theorem hop_between (me aim : Int) (l : List Int) : (hopI me aim l).isSome = betB me aim l := by
  obtain ⟨h1, h2⟩ := hop_ok me aim l
  cases h : hopI me aim l with
  | none =>
    symm
    refine List.any_eq_false.2 fun x hx => ?_
    have := h1 h x hx
    simp only [Bool.and_eq_true, bne_iff_ne, decide_eq_true_eq]
    exact this
  | some b =>
    obtain ⟨g1, g2, g3, -⟩ := h2 b h
    symm
    refine List.any_eq_true.2 ⟨b, g1, ?_⟩
    simp only [Bool.and_eq_true, bne_iff_ne, decide_eq_true_eq]
    exact ⟨g2, g3⟩
set_option maxRecDepth 20000 in
set_option maxHeartbeats 8000000 in
theorem fingerStops_any (L : FingLaws) (me aim : Int) (A : Option Addr) (c n : Nat) (seats : List Int) (W : World) (hme : Pt me) (haim : Pt aim) (hp : ∀ s ∈ seats, Pt s) (hA : PtAt W A seats) (hn : seats.length = n) :
    Calls Try.prog 6 #[.int .u64 me, .int .u64 aim, .slice A n c] W fun e w' => e = .returned (.bool true) ∧ Below W.heap.size W w' := by
  have CA := Lib.hid (fingAlive_any L)
  by_cases q0 : 40 < n
  · have d0 : decide (40 < (n : Int)) = true := decide_eq_true (by omega)
    go_enter Try.func6, Try.ntmps6
    go_wp2_with (go_at_call 9; (with_reducible refine (CA.out _).mono ?_); rintro e w1 ⟨rfl, h1⟩)
    go_ret
    exact ⟨rfl, h1⟩
  have d0 : decide (40 < (n : Int)) = false := decide_eq_false (by omega)
  obtain ⟨d2, hd2⟩ : ∃ d, farI me aim = d := ⟨_, rfl⟩
  have z2 : IntKind.u64.wrap (aim - me) = d2 := hd2
  have CH : Hid (∀ w, PtAt w A seats → Calls Try.prog 14 #[.int .u64 me, .int .u64 aim, .slice A n c] w fun e w' => e = .returned (.tuple #[.int .u64 ((hopI me aim seats).getD 0), .bool (hopI me aim seats).isSome]) ∧ Below w.heap.size w w') := fun w h =>
    L.hop me aim A c n seats w hme haim hp h hn (by omega)
  have CW : Hid (∀ w, PtAt w A seats → Calls Try.prog 12 #[.int .u64 me, .int .u64 aim, .slice A n c] w fun e w' => (∃ A2 n2 c2, e = .returned (.tuple #[.slice A2 n2 c2, .bool (decide (me ∈ seats))])) ∧ Below w.heap.size w w') := fun w h => by
    refine (L.way me aim A c n seats w hme haim hp h hn (by omega)).mono ?_
    rintro e w' ⟨A2, c2, rfl, -, hb⟩
    exact ⟨⟨A2, _, c2, rfl⟩, hb⟩
  have hok := (hop_ok me aim seats).2
  have hbt := hop_between me aim seats
  have hmi : decide (me ∈ seats) = seats.any fun y => y == me := by
    by_cases h : me ∈ seats
    · rw [decide_eq_true h, (any_mem seats me).2 h]
    · rw [decide_eq_false h]
      exact (bool_no fun z => h ((any_mem seats me).1 z)).symm
  rw [hmi] at CW
  generalize hopI me aim seats = o at *
  have HA := Lib.hid hA
  have HN := Lib.hid hn
  have HBT := Lib.hid hbt
  have HOK := Lib.hid hok
  have HD2 := Lib.hid hd2
  clear hA hn hbt hok hmi hd2 hp hme haim
  go_enter Try.func6, Try.ntmps6
  go_wp2_with (first
    | (go_at_call 9; (with_reducible refine (CA.out _).mono ?_); rintro e w1 ⟨rfl, h1⟩; have H1 := Lib.hid h1; clear h1)
    | (go_at_call 14; (with_reducible refine (CH.out _ (HA.out.below H1.out)).mono ?_); rintro e w2 ⟨rfl, h2⟩; have H2 : Hid (Below W.heap.size W w2) := acc H1.out h2; clear h2))
  go_loopg [9, 10, 12, 32] (n + 1) (fun gh s9 s10 s12 s32 wx => ∃ (i : Nat), i + gh = n + 1 ∧ i ≤ n ∧ s32 = .int .i64 (i : Nat) ∧ s9 = .bool (betB me aim (seats.take i)) ∧ s10 = .bool ((seats.take i).any fun y => y == me) ∧ Hid (Below W.heap.size W wx))
  case atStart => exact ⟨0, by omega, by omega, rfl, rfl, rfl, H2⟩
  case round =>
    obtain ⟨i, hig, hi, rfl, rfl, rfl, HB⟩ := hrel
    by_cases hlt : i < n
    · have i1 : (i : Int) < (n : Int) := by omega
      have zi : IntKind.i64.wrap ((i : Int) + 1) = (i : Int) + 1 := by rw [IntKind.wrap_i64]; omega
      obtain ⟨b3, o3, h3⟩ := HA.out.below HB.out
      obtain ⟨rfl, -, e3⟩ := h3 i (by rw [HN.out]; exact hlt)
      have hts := take_snoc_at seats i (by rw [HN.out]; exact hlt)
      generalize seats[i]'(by rw [HN.out]; exact hlt) = y at e3 hts
      have h1 : ((seats.take (i + 1)).any fun y => y == me) = (((seats.take i).any fun y => y == me) || (y == me)) := by rw [hts, any_snoc]
      have h2 : betB me aim (seats.take (i + 1)) = (betB me aim (seats.take i) || ((y != me) && decide (farI me y ≤ farI me aim))) := by rw [hts, betB_snoc]
      obtain ⟨d1, hd1⟩ : ∃ d, farI me y = d := ⟨_, rfl⟩
      have z1 : IntKind.u64.wrap (y - me) = d1 := hd1
      rw [hd1, HD2.out] at h2
      have hc : ((y == me) = true ∧ (y != me) = false) ∨ ((y == me) = false ∧ (y != me) = true ∧ decide (d1 ≤ d2) = true) ∨ ((y == me) = false ∧ (y != me) = true ∧ decide (d1 ≤ d2) = false) := by
        by_cases z : y = me
        · exact .inl ⟨by simp [z], by simp [z]⟩
        · refine .inr ?_
          by_cases z2 : d1 ≤ d2
          · exact .inl ⟨by simp [z], by simp [z], decide_eq_true z2⟩
          · exact .inr ⟨by simp [z], by simp [z], decide_eq_false z2⟩
      generalize ((seats.take i).any fun y => y == me) = r at *
      generalize betB me aim (seats.take i) = q at *
      have G1 := Lib.hid h1
      have G2 := Lib.hid h2
      clear h1 h2 hts h3 hd1
      rcases hc with ⟨c1, c2⟩ | ⟨c1, c2, c3⟩ | ⟨c1, c2, c3⟩
      all_goals
        cases q <;> cases r
        all_goals
          go_wp2_with fail
          go_roundg (gk - 1)
          case measure => omega
          case rel => exact ⟨i + 1, by omega, by omega, by go_num, by rw [G2.out, c2]; (try rw [c3]); rfl, by rw [G1.out, c1]; rfl, HB⟩
    · obtain rfl : i = n := by omega
      have hta : seats.take i = seats := List.take_of_length_le (by rw [HN.out]; exact Nat.le_refl _)
      rw [hta, ← HBT.out]
      generalize (seats.any fun y => y == me) = r at *
      cases o with
      | none =>
        cases r
        all_goals
          go_wp2_with (go_at_call 12; (with_reducible refine (CW.out _ (HA.out.below HB.out)).mono ?_); rintro e w4 ⟨⟨A2, n2, c2, rfl⟩, h4⟩)
          go_ret
          exact ⟨rfl, acc HB.out h4⟩
      | some b =>
        obtain ⟨g1, g2, g3, -⟩ := HOK.out b rfl
        have b1 : (b != me) = true := bne_iff_ne.2 g2
        have b2 : decide (IntKind.u64.wrap (b - me) ≤ d2) = true := decide_eq_true (by rw [← HD2.out]; exact g3)
        clear g1 g2 g3
        cases r
        all_goals
          go_wp2_with (go_at_call 12; (with_reducible refine (CW.out _ (HA.out.below HB.out)).mono ?_); rintro e w4 ⟨⟨A2, n2, c2, rfl⟩, h4⟩)
          go_ret
          exact ⟨rfl, acc HB.out h4⟩
end Go.Proofs.Ytfpoapmbpbkibaa
