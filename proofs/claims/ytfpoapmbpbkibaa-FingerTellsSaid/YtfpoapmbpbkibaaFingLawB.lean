/-
  The ways from all seats to one point end at the same one (FingerRounds).
-/
import Derived.Test.YtfpoapmbpbkibaaFingLawA
namespace Go.Proofs.Ytfpoapmbpbkibaa
open Go.RowKit Pb

/-- a list in a row of the call's own that is not empty: its cells -/
theorem row_at {w : World} {base c n : Nat} {A : Option Addr} {l : List Int} (h : w.ownsRow base 22 1 (.slice A n c) n (ptC l)) (h1 : 0 < n) :
    ∃ q, A = some ⟨q, 0, none⟩ ∧ q < w.heap.size ∧ ∀ i (hi : i < l.length), w.cell? ⟨q, i, none⟩ = some (.int .u64 (l[i])) := by
  rcases h.2 with ⟨h0, h3⟩ | ⟨q, cap, cur, h0, h3⟩
  · injection h0 with _ h0 _
    omega
  · injection h0 with h0 _ h4
    subst h0 h4
    refine ⟨q, rfl, (h.lt q rfl).2, fun i hi => ?_⟩
    have hc := h.cells (g := q) rfl i _ (ptC_get l i hi)
    rwa [Go.WideShapes.add_plain, Nat.zero_add] at hc
/-- a way as a call tells it: from a seat -/
def WayAt (W : World) (tot : List Int) (e : Ending) (w' : World) : Prop :=
  ∃ q c, e = .returned (.tuple #[.slice (some ⟨q, 0, none⟩) tot.length c, .bool true]) ∧ (∀ i (hi : i < tot.length), w'.cell? ⟨q, i, none⟩ = some (.int .u64 (tot[i]))) ∧ Below W.heap.size W w'
theorem way_call (L : FingLaws) {me aim : Int} {A : Option Addr} {c n : Nat} {seats l : List Int} {W : World} (hm : Pt me) (haim : Pt aim) (hp : ∀ s ∈ seats, Pt s) (hA : PtAt W A seats) (hn : seats.length = n) (h : n ≤ 1000) (hs : me ∈ seats) (ht : wayI me aim seats = me :: l) :
    Calls Try.prog 12 #[.int .u64 me, .int .u64 aim, .slice A n c] W (WayAt W (me :: l)) := by
  refine (L.way me aim A c n seats W hm haim hp hA hn h).mono ?_
  rintro e w' ⟨B, d, rfl, h1, h2⟩
  rw [ht] at h1 ⊢
  rw [decide_eq_true hs]
  obtain ⟨q, rfl, -, h3⟩ := row_at h1 (by simp)
  exact ⟨q, d, rfl, h3, h2⟩
set_option maxRecDepth 20000 in
set_option maxHeartbeats 8000000 in
theorem fingerRounds_any (L : FingLaws) (aim : Int) (A : Option Addr) (c n : Nat) (seats : List Int) (W : World) (haim : Pt aim) (hp : ∀ s ∈ seats, Pt s) (hA : PtAt W A seats) (hn : seats.length = n) :
    Calls Try.prog 8 #[.int .u64 aim, .slice A n c] W fun e w' => e = .returned (.bool true) ∧ Below W.heap.size W w' := by
  have CA := Lib.hid (fingAlive_any L)
  by_cases q0 : n < 1
  · have d0 : decide ((n : Int) < 1) = true := decide_eq_true (by omega)
    go_enter Try.func8, Try.ntmps8
    go_wp2_with (go_at_call 9; (with_reducible refine (CA.out _).mono ?_); rintro e w1 ⟨rfl, h1⟩)
    go_ret
    exact ⟨rfl, h1⟩
  have d0 : decide ((n : Int) < 1) = false := decide_eq_false (by omega)
  by_cases q1 : 20 < n
  · have d1 : decide (20 < (n : Int)) = true := decide_eq_true (by omega)
    go_enter Try.func8, Try.ntmps8
    go_wp2_with (go_at_call 9; (with_reducible refine (CA.out _).mono ?_); rintro e w1 ⟨rfl, h1⟩)
    go_ret
    exact ⟨rfl, h1⟩
  have d1 : decide (20 < (n : Int)) = false := decide_eq_false (by omega)
  obtain ⟨T, hT⟩ := best_some (aim := aim) (seats := seats) (fun e => by rw [e] at hn; exact q0 (by rw [← hn]; decide))
  have CW : Hid (∀ w s, s ∈ seats → PtAt w A seats → Calls Try.prog 12 #[.int .u64 s, .int .u64 aim, .slice A n c] w fun e w' =>
      ∃ q m d, e = .returned (.tuple #[.slice (some ⟨q, 0, none⟩) (m + 1) d, .bool true]) ∧ m ≤ 64 ∧ w'.cell? ⟨q, m, none⟩ = some (.int .u64 T) ∧ Below w.heap.size w w') := fun w s hs h => by
    obtain ⟨l, T2, h1, h2, h3, h4, -⟩ := way_seat (aim := aim) hs hp
    obtain rfl := hT.same h2 hp
    refine (way_call L (hp s hs) haim hp h hn (by omega) hs h1).mono ?_
    rintro e w' ⟨q, d, rfl, h5, h6⟩
    refine ⟨q, l.length, d, rfl, h3, ?_, h6⟩
    rw [h5 l.length (by simp)]
    rw [List.getLast_eq_getElem] at h4
    simp only [List.length_cons, Nat.add_sub_cancel] at h4
    rw [h4]
  have HA := Lib.hid hA
  have HN := Lib.hid hn
  clear hA hn hp haim hT
  go_enter Try.func8, Try.ntmps8
  go_wp2_with (go_at_call 9; (with_reducible refine (CA.out _).mono ?_); rintro e w1 ⟨rfl, h1⟩; have H1 := Lib.hid h1; clear h1)
  go_loopg [5, 6, 8, 9, 10, 26] (n + 1) (fun gh s5 s6 s8 s9 s10 s26 wx => ∃ (i : Nat) (e : Int) (fst : Bool), i + gh = n + 1 ∧ i ≤ n ∧ s26 = .int .i64 (i : Nat) ∧ s5 = .int .u64 e ∧ s6 = .bool fst ∧ Hid (fst = false → e = T) ∧ Hid (Below W.heap.size W wx))
  case atStart => exact ⟨0, 0, true, by omega, by omega, rfl, rfl, rfl, fun z => (by cases z), H1⟩
  case round =>
    obtain ⟨i, e, fst, hig, hi, rfl, rfl, rfl, HE, HB⟩ := hrel
    by_cases hlt : i < n
    · have i1 : (i : Int) < (n : Int) := by omega
      have zi : IntKind.i64.wrap ((i : Int) + 1) = (i : Int) + 1 := by rw [IntKind.wrap_i64]; omega
      have hal : i < seats.length := by rw [HN.out]; exact hlt
      obtain ⟨b3, o3, h3⟩ := HA.out.below HB.out
      obtain ⟨rfl, -, e3⟩ := h3 i hal
      have hs : seats[i] ∈ seats := List.getElem_mem hal
      generalize seats[i] = s at e3 hs
      have CWS := Lib.hid (CW.out wr s hs (HA.out.below HB.out))
      clear h3 hs
      cases fst with
      | true =>
        go_wp2_with (go_at_call 12; (with_reducible refine (CWS.out).mono ?_); rintro e4 w4 ⟨q, m, d, rfl, hm, em, h4⟩; have H4 : Hid (Below W.heap.size W w4) := acc HB.out h4; have dm : decide ((m : Int) + 1 < 1) = false := decide_eq_false (by omega); have zm : IntKind.i64.wrap ((m : Int) + 1 - 1) = (m : Int) := (by rw [IntKind.wrap_i64]; omega); clear h4)
        go_roundg (gk - 1)
        case measure => omega
        case rel => exact ⟨i + 1, T, false, by omega, by omega, by go_num, rfl, rfl, fun _ => rfl, H4⟩
      | false =>
        obtain rfl := HE.out rfl
        go_wp2_with (go_at_call 12; (with_reducible refine (CWS.out).mono ?_); rintro e4 w4 ⟨q, m, d, rfl, hm, em, h4⟩; have H4 : Hid (Below W.heap.size W w4) := acc HB.out h4; have dm : decide ((m : Int) + 1 < 1) = false := decide_eq_false (by omega); have zm : IntKind.i64.wrap ((m : Int) + 1 - 1) = (m : Int) := (by rw [IntKind.wrap_i64]; omega); clear h4)
        go_roundg (gk - 1)
        case measure => omega
        case rel => exact ⟨i + 1, e, false, by omega, by omega, by go_num, rfl, rfl, fun _ => rfl, H4⟩
    · go_wp2_with fail
      go_ret
      exact ⟨rfl, HB.out⟩
end Go.Proofs.Ytfpoapmbpbkibaa
