/-
  The walk of the document's own Middle.
-/
import Derived.Test.YtglinhcldgpphaaRefWalk
namespace Go.Proofs.Ytglinhcldgpphaa
open Go.RowKit

/-- what Middle answers -/
def midV : Option Nat → Value
  | some m => .tuple #[.int .u64 (m : Nat), .bool true]
  | none => .tuple #[.int .u64 0, .bool false]
theorem midL_start {a : List Item} (h : 0 < a.length) : midL a = midScan (adr (a[(a.length + 1) / 2 - 1]'(by omega))) (a.drop ((a.length + 1) / 2)) := by
  unfold midL
  rw [List.drop_eq_getElem_cons (show (a.length + 1) / 2 - 1 < a.length by omega)]
  rw [show (a.length + 1) / 2 - 1 + 1 = (a.length + 1) / 2 by omega]
theorem midL_start' {a : List Item} {n : Nat} (hn : a.length = n) (h : 0 < n) : ∃ h : (n + 1) / 2 - 1 < a.length, midL a = midScan (adr (a[(n + 1) / 2 - 1])) (a.drop ((n + 1) / 2)) := by
  subst hn
  exact ⟨by omega, midL_start h⟩
theorem midScan_step {a : List Item} {i p : Nat} (h : i < a.length) : midScan p (a.drop i) = if adr (a[i]) = p then midScan p (a.drop (i + 1)) else some (adr (a[i])) := by
  rw [List.drop_eq_getElem_cons h, midScan]
set_option maxRecDepth 100000 in
set_option maxHeartbeats 8000000 in
theorem refMiddle_any (g : Nat) (F : List Nat) (most : Int) (l : List Item) (f t : Nat) (W : World) (hR : RS W g F most l) (hl : l.length ≤ 100000) (hks : ∀ x ∈ l, x.1.size ≤ 16) (hf : f < 18446744073709551616) (ht : t < 18446744073709551616) :
    Calls Try.prog 17 #[.pointer (some ⟨g, 0, none⟩), .agg #[.int .u64 (f : Nat), .int .u64 (t : Nat)]] W fun e w' => e = .returned (midV (midL (arcL l f t))) ∧ Below W.heap.size W w' := by
  have HBW : Hid (Below W.heap.size W (W.alloc (.cells #[.int .u64 (f : Nat), .int .u64 (t : Nat)] 25))) := (Below.refl _ _).alloc (Nat.le_refl _) _
  have CA := Lib.hid (refArc_any g F most l f t _ (hR.later HBW.out) hl hks hf ht)
  have hka : ∀ x ∈ arcL l f t, x.1.size ≤ 16 := fun x hx => by
    rw [arcL, List.mem_append, List.mem_filter, List.mem_filter] at hx
    rcases hx with ⟨z, _⟩ | ⟨z, _⟩ <;> exact hks x z
  have hla : (arcL l f t).length ≤ 200000 := by
    have h1 := List.length_filter_le (inA f t false) l
    have h2 := List.length_filter_le (inA f t true) l
    rw [arcL, List.length_append]
    omega
  obtain ⟨a, ha⟩ : ∃ a, arcL l f t = a := ⟨_, rfl⟩
  rw [ha] at CA hka hla ⊢
  have HKA := Lib.hid hka
  obtain ⟨n, hn⟩ : ∃ n, a.length = n := ⟨_, rfl⟩
  have HN := Lib.hid hn
  have CA2 : Hid (Calls Try.prog 20 #[.pointer (some ⟨g, 0, none⟩), .agg #[.int .u64 (f : Nat), .int .u64 (t : Nat)]] (W.alloc (.cells #[.int .u64 (f : Nat), .int .u64 (t : Nat)] 25)) fun e w' => ∃ A c, e = .returned (.slice A (n : Nat) c) ∧ Row w' (.slice A a.length c) a ∧ Below W.heap.size W w') := CA.out.mono (by
    rintro e w' ⟨A, c, rfl, h1, h2⟩
    exact ⟨A, c, by rw [HN.out], own_mono h1 (Nat.zero_le _), acc HBW.out h2⟩)
  rw [hn] at hla
  clear hR hl hks hf ht hka hn ha CA
  go_enter Try.func17, Try.ntmps17
  go_wp2_with (first
    | (go_at_call 20; (with_reducible refine (CA2.out).mono ?_); rintro e w1 ⟨A, c, rfl, hr, hb⟩; have HR := Lib.hid hr; have HB := Lib.hid hb; clear hr hb))
  clear CA2
  rcases Nat.eq_zero_or_pos n with hn0 | hpos
  · subst hn0
    have HE : Hid (midL a = none) := by
      obtain rfl : a = [] := List.eq_nil_of_length_eq_zero HN.out
      rfl
    go_loopg [7] 1 (fun gh s7 wx => gh = 1 ∧ s7 = .int .i64 0 ∧ wx = w1)
    case atStart => exact ⟨rfl, rfl, rfl⟩
    case round =>
      obtain ⟨-, rfl, rfl⟩ := hrel
      go_wp2_with fail
      go_ret2
      exact ⟨by rw [HE.out]; rfl, HB.out⟩
  · obtain ⟨hs0, hst⟩ := midL_start' HN.out hpos
    have HST := Lib.hid hst
    obtain ⟨q, rfl⟩ := HR.out.atBlock (by rw [HN.out]; omega)
    clear hst
    go_loopg [7] (n + 1 - (n + 1) / 2) (fun gh s7 wx => ∃ (i p : Nat), i + gh = n + 1 ∧ 1 ≤ i ∧ i ≤ n ∧ s7 = .int .i64 (i : Nat) ∧ Hid (midL a = midScan p (a.drop i)) ∧ Hid (∃ h : i - 1 < a.length, adr (a[i - 1]) = p) ∧ Hid (Row wx (.slice (some ⟨q, 0, none⟩) a.length c) a) ∧ Hid (Below W.heap.size W wx))
    case atStart =>
      exact ⟨(n + 1) / 2, adr (a[(n + 1) / 2 - 1]), by omega, by omega, by omega, by go_num, HST.out, ⟨hs0, rfl⟩, HR, HB⟩
    case round =>
      obtain ⟨i, p, hig, hi1, hi, rfl, HM, HP, HR, HB⟩ := hrel
      by_cases hlt : i < n
      · have hil : i < a.length := by rw [HN.out]; exact hlt
        obtain ⟨hil1, hp⟩ := HP.out
        have ck := (HR.out.cellAt (i * 2) (by omega)).trans (itemCells_get0 a i hil)
        have cp := (HR.out.cellAt ((i - 1) * 2) (by omega)).trans (itemCells_get0 a (i - 1) hil1)
        have hms := midScan_step (p := p) hil
        have k1 := HKA.out _ (List.getElem_mem hil)
        have k2 := HKA.out _ (List.getElem_mem hil1)
        obtain ⟨x, hx⟩ : ∃ x, a[i] = x := ⟨_, rfl⟩
        obtain ⟨y, hy⟩ : ∃ y, a[i - 1] = y := ⟨_, rfl⟩
        rw [hx] at ck hms k1
        rw [hy] at cp hp k2
        obtain ⟨xk, xv⟩ := x
        obtain ⟨yk, yv⟩ := y
        have ck : wr.cell? ⟨q, i * 2, none⟩ = some (.string xk) := ck
        have cp : wr.cell? ⟨q, (i - 1) * 2, none⟩ = some (.string yk) := cp
        obtain ⟨ax, hax⟩ : ∃ ax, addrN xk = ax := ⟨_, rfl⟩
        have hax' : adr (xk, xv) = ax := hax
        have hp' : addrN yk = p := hp
        rw [hax'] at hms
        have HMS := Lib.hid hms
        have HX : Hid (a[i] = (xk, xv)) := hx
        have HAX : Hid (adr (xk, xv) = ax) := hax'
        have C1 : Hid (∀ w, Calls Try.prog 40 #[.string xk] w fun e w' => e = .returned (.int .u64 (ax : Nat)) ∧ ∃ n, w' = w.drewN n) := fun w => (refAddr_any xk w (by have k1 : xk.size ≤ 16 := k1; unfold maxLen; omega)).mono (by
          rintro e w' ⟨rfl, rfl⟩
          exact ⟨by rw [hax], 0, rfl⟩)
        have C2 : Hid (∀ w, Calls Try.prog 40 #[.string yk] w fun e w' => e = .returned (.int .u64 (p : Nat)) ∧ ∃ n, w' = w.drewN n) := fun w => (refAddr_any yk w (by have k2 : yk.size ≤ 16 := k2; unfold maxLen; omega)).mono (by
          rintro e w' ⟨rfl, rfl⟩
          exact ⟨by rw [hp'], 0, rfl⟩)
        have ei : (i : Int) - 1 = ((i - 1 : Nat) : Int) := by omega
        have hi2 : i - 1 < n := by omega
        clear hms hax hax' hp hp' hx hy k1 k2
        go_upto_region 5 with fail
        by_cases he : ax = p
        · have ex : ((ax : Int) == (p : Int)) = true := by simp; omega
          have HM2 : Hid (midL a = midScan p (a.drop (i + 1))) := HM.out.trans (HMS.out.trans (if_pos he))
          have HEP : Hid (ax = p) := he
          clear he HMS
          go_quiet (first | (go_at_call 40; with_reducible exact Calls.quiet_of (C1.out _)) | (go_at_call 40; with_reducible exact Calls.quiet_of (C2.out _)))
          go_wp2_with fail
          go_roundg (gk - 1)
          case measure => omega
          case rel =>
            have hb : Below wr.heap.size wr (wr.drewN nq) := ((Touch.refl [] wr).drewN nq).below (Nat.le_refl _) (by simp)
            exact ⟨i + 1, p, by omega, by omega, by omega, by go_num, HM2.out, ⟨hil, (congrArg adr HX.out).trans (HAX.out.trans HEP.out)⟩, (Touch.ofBelow (F := []) hb).row HR.out (by simp), acc HB.out hb⟩
        · have ex : ((ax : Int) == (p : Int)) = false := by simp; omega
          have HF : Hid (midL a = some ax) := HM.out.trans (HMS.out.trans (if_neg he))
          go_quiet (first | (go_at_call 40; with_reducible exact Calls.quiet_of (C1.out _)) | (go_at_call 40; with_reducible exact Calls.quiet_of (C2.out _)))
          go_wp2_with (go_at_call 40; (with_reducible refine (C1.out _).mono ?_); rintro e w4 ⟨rfl, n4, rfl⟩)
          go_ret2
          have hb : Below wr.heap.size wr (wr.drewN (nq + n4)) := ((Touch.refl [] wr).drewN (nq + n4)).below (Nat.le_refl _) (by simp)
          exact ⟨by rw [HF.out]; rfl, acc HB.out hb⟩
      · obtain rfl : i = n := by omega
        have HF : Hid (midL a = none) := by rw [HM.out, List.drop_of_length_le (by rw [HN.out]; omega)]; rfl
        go_wp2_with fail
        go_ret2
        exact ⟨by rw [HF.out]; rfl, HB.out⟩
end Go.Proofs.Ytglinhcldgpphaa
