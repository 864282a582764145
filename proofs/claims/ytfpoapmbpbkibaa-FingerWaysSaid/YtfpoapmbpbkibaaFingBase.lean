/-
  What is asked of the code's Fingers, Hop, Way (FingLaws); the first call of stage 12's statements; the way of a seat, as the statements need it.
-/
import Derived.Test.YtfpoapmbpbkibaaFingRef
namespace Go.Proofs.Ytfpoapmbpbkibaa
open Go.RowKit Pb

structure FingLaws : Prop where
  fingers : ∀ (me : Int) (A : Option Addr) (c n : Nat) (seats : List Int) (W : World), Pt me → (∀ s ∈ seats, Pt s) → PtAt W A seats → seats.length = n → n ≤ 1000 →
    Calls Try.prog 11 #[.int .u64 me, .slice A n c] W (NewPts W (fingersI me seats))
  hop : ∀ (me aim : Int) (A : Option Addr) (c n : Nat) (fs : List Int) (W : World), Pt me → Pt aim → (∀ s ∈ fs, Pt s) → PtAt W A fs → fs.length = n → n ≤ 1000 →
    Calls Try.prog 14 #[.int .u64 me, .int .u64 aim, .slice A n c] W fun e w' => e = .returned (hopV (hopI me aim fs)) ∧ Below W.heap.size W w'
  way : ∀ (me aim : Int) (A : Option Addr) (c n : Nat) (seats : List Int) (W : World), Pt me → Pt aim → (∀ s ∈ seats, Pt s) → PtAt W A seats → seats.length = n → n ≤ 1000 →
    Calls Try.prog 12 #[.int .u64 me, .int .u64 aim, .slice A n c] W (WayPost W me aim seats)
/-- the way of a seat -/
theorem way_seat {me aim : Int} {seats : List Int} (hme : me ∈ seats) (hp : ∀ s ∈ seats, Pt s) : ∃ l T, wayI me aim seats = me :: l ∧ Best aim seats T ∧ WayOk T 64 seats me l := by
  obtain ⟨T, hT⟩ := best_some (aim := aim) (seats := seats) (fun e => by rw [e] at hme; cases hme)
  refine ⟨_, T, if_pos hme, hT, wayGo_ok hp hT 64 100 me hme ?_ (by decide)⟩
  have := (farI_range me T).2
  show farI me T < ((2 ^ 64 : Nat) : Int)
  have h2 : (2 : Nat) ^ 64 = 18446744073709551616 := by decide
  rw [h2]
  omega
theorem way_none {me aim : Int} {seats : List Int} (hme : me ∉ seats) : wayI me aim seats = [] := if_neg hme
theorem way_eg : wayI 0 10 [0, 4, 9, 20] = [0, 9] := by decide +kernel
theorem hop_eg : hopI 0 10 [4, 9, 20] = some 9 := by decide +kernel
theorem fing_eg : (fingersI 0 [0, 4, 9, 20]).length = 3 := by decide +kernel
theorem pts_lit (w : World) (l : List Int) (n : Nat) (hn : l.length = n) (h : n ≤ 100000) : PtAt (w.alloc (.cells (ptC l).toArray 22)) (some ⟨w.heap.size, 0, none⟩) l := by
  have z := World.ownsRow_lit (base := 0) (e := 22) (size := 1) w (ptC l).toArray n (Nat.zero_le _) (by unfold maxLen; omega) (by simp [hn])
  exact PtAt.own (c := n) (n := n) (by simpa using z) hn
set_option maxRecDepth 20000 in
set_option maxHeartbeats 4000000 in
theorem fingAlive_any (L : FingLaws) (W : World) : Calls Try.prog 9 #[] W fun e w' => e = .returned (.bool true) ∧ Below W.heap.size W w' := by
  have hp4 : ∀ s ∈ [(0 : Int), 4, 9, 20], Pt s := by decide
  have hp3 : ∀ s ∈ [(4 : Int), 9, 20], Pt s := by decide
  have CW : Hid (∀ w, Calls Try.prog 12 #[.int .u64 0, .int .u64 10, .slice (some ⟨w.heap.size, 0, none⟩) 4 4] (w.alloc (.cells #[.int .u64 0, .int .u64 4, .int .u64 9, .int .u64 20] 22)) fun e w' => ∃ q c, e = .returned (.tuple #[.slice (some ⟨q, 0, none⟩) 2 c, .bool true]) ∧ w'.cell? ⟨q, 0, none⟩ = some (.int .u64 0) ∧ w'.cell? ⟨q, 1, none⟩ = some (.int .u64 9) ∧ Below w.heap.size w w') := fun w => by
    have h := L.way 0 10 (some ⟨w.heap.size, 0, none⟩) 4 4 [0, 4, 9, 20] _ (by decide) (by decide) hp4 (pts_lit w [0, 4, 9, 20] 4 rfl (by decide)) rfl (by decide)
    refine h.mono ?_
    rintro e w' ⟨A, c, rfl, h1, h2⟩
    rw [way_eg] at h1 ⊢
    rcases h1.2 with ⟨h0, h3⟩ | ⟨q, cap, cur, h0, h3⟩
    · cases h3
    · injection h0 with h0 _ h4
      subst h0 h4
      have hc := h1.cells (g := q) rfl
      have c0 := hc 0 _ rfl
      have c1 := hc 1 _ rfl
      rw [Go.WideShapes.add_plain] at c0 c1
      exact ⟨q, _, rfl, c0, c1, ((Below.refl w.heap.size w).alloc (Nat.le_refl _) _).trans (h2.mono (by simp))⟩
  have CH : Hid (∀ w, Calls Try.prog 14 #[.int .u64 0, .int .u64 10, .slice (some ⟨w.heap.size, 0, none⟩) 3 3] (w.alloc (.cells #[.int .u64 4, .int .u64 9, .int .u64 20] 22)) fun e w' => e = .returned (.tuple #[.int .u64 9, .bool true]) ∧ Below w.heap.size w w') := fun w => by
    have h := L.hop 0 10 (some ⟨w.heap.size, 0, none⟩) 3 3 [4, 9, 20] _ (by decide) (by decide) hp3 (pts_lit w [4, 9, 20] 3 rfl (by decide)) rfl (by decide)
    rw [hop_eg] at h
    refine h.mono ?_
    rintro e w' ⟨rfl, h2⟩
    exact ⟨rfl, ((Below.refl w.heap.size w).alloc (Nat.le_refl _) _).trans (h2.mono (by simp))⟩
  have CF : Hid (∀ w, Calls Try.prog 11 #[.int .u64 0, .slice (some ⟨w.heap.size, 0, none⟩) 4 4] (w.alloc (.cells #[.int .u64 0, .int .u64 4, .int .u64 9, .int .u64 20] 22)) fun e w' => (∃ A c, e = .returned (.slice A 3 c)) ∧ Below w.heap.size w w') := fun w => by
    have h := L.fingers 0 (some ⟨w.heap.size, 0, none⟩) 4 4 [0, 4, 9, 20] _ (by decide) hp4 (pts_lit w [0, 4, 9, 20] 4 rfl (by decide)) rfl (by decide)
    refine h.mono ?_
    rintro e w' ⟨A, c, rfl, h1, h2⟩
    rw [fing_eg]
    exact ⟨⟨A, c, rfl⟩, ((Below.refl w.heap.size w).alloc (Nat.le_refl _) _).trans (h2.mono (by simp))⟩
  clear hp4 hp3
  go_enter Try.func9, Try.ntmps9
  go_wp2_with (first
    | (go_at_call 12; (with_reducible refine (CW.out _).mono ?_); rintro e w1 ⟨q, c, rfl, e0, e1, hb1⟩; have HC := Lib.hid (And.intro e0 e1); have HB1 := Lib.hid hb1; clear e0 e1 hb1)
    | (go_at_call 14; (with_reducible refine (CH.out _).mono ?_); rintro e w2 ⟨rfl, hb2⟩; have lq := World.block_lt_of_cell? _ _ HC.out.1; have e0 := (hb2.cell (p := ⟨q, 0, none⟩) lq).trans HC.out.1; have e1 := (hb2.cell (p := ⟨q, 1, none⟩) lq).trans HC.out.2; have HB2 := Lib.hid (acc HB1.out hb2); clear hb2 lq)
    | (go_at_call 11; (with_reducible refine (CF.out _).mono ?_); rintro e w3 ⟨⟨A3, c3, rfl⟩, hb3⟩; have HB3 := Lib.hid (acc HB2.out hb3); clear hb3))
  go_ret
  exact ⟨rfl, HB3.out⟩
end Go.Proofs.Ytfpoapmbpbkibaa
