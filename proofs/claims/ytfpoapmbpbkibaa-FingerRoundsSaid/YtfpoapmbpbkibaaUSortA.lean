/-
  A row of numbers that a call sorts: what stays of it through the library's steps (UR), and two cells that change places.
  The library's reverseRange at numbers.
  The library's Less and insertionSort at numbers.
-/
import Derived.Test.YtfpoapmbpbkibaaPbBook
import Derived.Sort.Lot0
import Derived.BigGuard
import Derived.BigCall
import Derived.CellFam
import Derived.Deep.Draws
import Derived.Deep.QuietTactic
import Derived.BigQuiet
import Derived.Deep.LoopGhost
import Derived.Sort.LotA
namespace Go.Proofs.Ytfpoapmbpbkibaa
open Go.RowKit Go.Sort

abbrev uC (d : Array Int) : List Value := d.toList.map (Value.int .u64)
theorem uC_length (d : Array Int) : (uC d).length = d.size := by simp
theorem uC_at (d : Array Int) (i : Nat) (h : i < d.size) : (uC d)[i]? = some (.int .u64 d[i]!) := by simp [h]
theorem uC_set (d : Array Int) (i : Nat) (x : Int) : (uC d).set i (.int .u64 x) = uC (d.setIfInBounds i x) := by
  show _ = (d.setIfInBounds i x).toList.map _
  rw [Array.toList_setIfInBounds, List.map_set]
/-- the row of block g holds d; nothing that lay there is touched but it -/
structure UR (B : Nat) (W : World) (g c : Nat) (d : Array Int) (w : World) : Prop where
  row : w.ownsRow B 22 1 (.slice (some ⟨g, 0, none⟩) d.size c) d.size (uC d)
  touch : Touch [g] W w
  old : g < W.heap.size
section
variable {B g c : Nat} {W w : World} {d : Array Int}
theorem UR.start (h : w.ownsRow B 22 1 (.slice (some ⟨g, 0, none⟩) d.size c) d.size (uC d)) : UR B w g c d w := ⟨h, Touch.refl _ _, (h.lt g rfl).2⟩
theorem UR.self (h : UR B W g c d w) : UR B w g c d w := .start h.row
theorem UR.trans {d2 : Array Int} {w2 : World} (h : UR B W g c d w) (k : UR B w g c d2 w2) : UR B W g c d2 w2 := ⟨k.row, h.touch.trans k.touch (fun _ hx => .inl hx), h.old⟩
theorem UR.cell (h : UR B W g c d w) {i : Nat} (hi : i < d.size) : w.cell? ⟨g, i, none⟩ = some (.int .u64 d[i]!) := by
  rw [h.row.cellAt i (by omega), uC_at d i hi]
theorem UR.free (h : UR B W g c d w) (i : Nat) : w.frozen? ⟨g, i, none⟩ = false := h.row.frozenAt i
theorem UR.put (h : UR B W g c d w) (i : Nat) (x : Int) : UR B W g c (d.setIfInBounds i x) (w.setCell ⟨g, i, none⟩ (.int .u64 x)) := by
  have h1 := (h.row.stored i (.int .u64 x)).1
  rw [uC_set] at h1
  exact ⟨by rw [Array.size_setIfInBounds]; exact h1, h.touch.set (.inl (by simp)) _, h.old⟩
theorem UR.swap (h : UR B W g c d w) (i j : Nat) : UR B W g c (swp d i j) ((w.setCell ⟨g, i, none⟩ (.int .u64 d[j]!)).setCell ⟨g, j, none⟩ (.int .u64 d[i]!)) := (h.put i _).put j _
theorem UR.drewN (h : UR B W g c d w) (q : Nat) : UR B W g c d (w.drewN q) :=
  ⟨(Touch.refl (F := []) w |>.drewN q).row h.row (by simp), h.touch.drewN q, h.old⟩
theorem UR.drew (h : UR B W g c d w) : UR B W g c d w.drew := h.drewN 1
theorem UR.swapped (h : UR B W g c d w) {i j : Nat} {x y : Int} (hx : d[i]! = x) (hy : d[j]! = y) : UR B W g c (swp d i j) ((w.setCell ⟨g, i, none⟩ (.int .u64 y)).setCell ⟨g, j, none⟩ (.int .u64 x)) := by
  rw [← hx, ← hy]
  exact h.swap i j
/-- other blocks of the call's own -/
theorem UR.past {w2 : World} {F : List Nat} (h : UR B W g c d w) (t : Touch F w w2) (hF : ∀ x ∈ F, x ≠ g ∧ W.heap.size ≤ x) : UR B W g c d w2 :=
  ⟨t.row h.row (fun q hq hx => (hF q hx).1 (by have : some g = some q := hq; exact (Option.some.inj this).symm)), h.touch.trans t (fun x hx => .inr (hF x hx).2), h.old⟩
theorem UR.size (h : UR B W g c d w) : W.heap.size ≤ w.heap.size := h.touch.size
theorem UR.len (h : UR B W g c d w) : d.size ≤ maxLen := by
  rcases h.row.2 with ⟨h0, _⟩ | ⟨_, _, _, h0, _, _, h1, h2, _, _⟩
  · cases h0
  · injection h0 with _ _ h3
    omega
end
theorem bang_eq (d : Array Int) (i : Nat) : ∃ x, d[i]! = x := ⟨_, rfl⟩
end Go.Proofs.Ytfpoapmbpbkibaa
namespace Go.Proofs.Ytfpoapmbpbkibaa
open Go.RowKit Go.Sort
theorem rev_go {i j : Nat} {d : Array Int} (h : i < j) : reverseLoop i j d = reverseLoop (i + 1) (j - 1) (swp d i j) := by rw [reverseLoop, if_pos h]
theorem rev_end {i j : Nat} {d : Array Int} (h : ¬ i < j) : reverseLoop i j d = d := by rw [reverseLoop, if_neg h]
set_option maxHeartbeats 2000000 in
set_option maxRecDepth 100000 in
theorem uReverse_any {B g c a b n : Nat} {d : Array Int} {W : World} (h : UR B W g c d W) (hn : d.size = n) (hlen : n ≤ 1000000) (hab : a < b) (hb : b ≤ n) :
    Calls Try.prog 85 #[.slice (some ⟨g, 0, none⟩) n c, .int .i64 a, .int .i64 b] W fun e w' => e = .returned (.tuple #[]) ∧ UR B W g c (reverseRange d a b) w' := by
  have H := Lib.hid h
  have HN := Lib.hid hn
  clear h hn
  go_enter Try.func85, Try.ntmps85
  go_wp2
  go_loopg [6, 7] (b - a) (fun k s6 s7 wr => ∃ (i j : Nat) (dk : Array Int), s6 = .int .i64 (i : Nat) ∧ s7 = .int .i64 (j : Nat) ∧ j - i ≤ k ∧ a ≤ i ∧ i ≤ j + 1 ∧ j < b ∧ Hid (dk.size = n) ∧ Hid (UR B W g c dk wr) ∧ Hid (reverseLoop i j dk = reverseLoop a (b - 1) d))
  case atStart => exact ⟨a, b - 1, d, rfl, by congr 1; omega, by omega, by omega, by omega, by omega, HN.out, H.out, rfl⟩
  case round =>
    obtain ⟨i, j, dk, rfl, rfl, hk, hai, hij1, hjb, HS, HU, HQ⟩ := hrel
    by_cases hlt : i < j
    · have i1 : (i : Int) < (j : Int) := by omega
      have ci := HU.out.cell (i := i) (by rw [HS.out]; omega)
      have cj := HU.out.cell (i := j) (by rw [HS.out]; omega)
      have fi := HU.out.free i
      have fj := HU.out.free j
      obtain ⟨x, hx⟩ := bang_eq dk i
      obtain ⟨y, hy⟩ := bang_eq dk j
      rw [hx] at ci
      rw [hy] at cj
      have HX := Lib.hid hx
      have HY := Lib.hid hy
      clear hx hy
      go_wp2_with fail
      go_region
      go_wp2
      go_roundg (j - 1 - (i + 1))
      case measure => omega
      case rel =>
        have hu := (HU.out.swap i j).drew
        rw [HX.out, HY.out] at hu
        exact ⟨i + 1, j - 1, swp dk i j, by go_num, by go_num, by omega, by omega, by omega, by omega, by rw [size_swp]; exact HS.out, hu, by rw [← rev_go hlt]; exact HQ.out⟩
    · have i1 : ¬ (i : Int) < (j : Int) := by omega
      go_wp2_with fail
      go_end0
      refine ⟨rfl, ?_⟩
      unfold reverseRange
      rw [← HQ.out, rev_end hlt]
      exact HU.out
end Go.Proofs.Ytfpoapmbpbkibaa
namespace Go.Proofs.Ytfpoapmbpbkibaa
open Go.RowKit Go.Sort
set_option maxHeartbeats 1000000 in
theorem uNaN_any (x : Int) (W : World) : Calls Try.prog 91 #[.int .u64 x] W fun e w' => e = .returned (.bool false) ∧ w' = W := by
  go_enter Try.func91, Try.ntmps91
  go_wp2
  go_ret
  exact ⟨by simp, rfl⟩
set_option maxHeartbeats 1000000 in
theorem uLess_any (x y : Int) (W : World) : Calls Try.prog 76 #[.int .u64 x, .int .u64 y] W fun e w' => e = .returned (.bool (ltInt x y)) ∧ w' = W := by
  go_enter Try.func76, Try.ntmps76
  go_wp2_with (go_at_call 91; (with_reducible refine (uNaN_any _ _).mono ?_); rintro e w1 ⟨rfl, rfl⟩)
  go_ret
  exact ⟨rfl, rfl⟩
/-- the answer by a name -/
theorem uLess_eq {x y : Int} {r : Bool} (h : ltInt x y = r) (W : World) : Calls Try.prog 76 #[.int .u64 x, .int .u64 y] W fun e w' => e = .returned (.bool r) ∧ w' = W := by
  rw [← h]
  exact uLess_any x y W
theorem ins_go {a j : Nat} {d : Array Int} (hj : a < j) (hl : ltInt d[j]! d[j - 1]! = true) : insInner ltInt a j d = insInner ltInt a (j - 1) (swp d j (j - 1)) := by
  cases j with
  | zero => omega
  | succ k => exact if_pos (Bool.and_eq_true_iff.2 ⟨decide_eq_true hj, hl⟩)
theorem ins_end {a j : Nat} {d : Array Int} (h : j ≤ a ∨ ltInt d[j]! d[j - 1]! = false) : insInner ltInt a j d = d := by
  cases j with
  | zero => rfl
  | succ k =>
    refine if_neg fun z => ?_
    obtain ⟨z1, z2⟩ := Bool.and_eq_true_iff.1 z
    have z1 := of_decide_eq_true z1
    have z2 : ltInt d[k + 1]! d[k + 1 - 1]! = true := z2
    rcases h with h | h
    · omega
    · rw [h] at z2
      cases z2
theorem insO_go {a b i : Nat} {d : Array Int} (h : i < b) : insOuter ltInt a b i d = insOuter ltInt a b (i + 1) (insInner ltInt a i d) := by rw [insOuter, if_pos h]
theorem insO_end {a b i : Nat} {d : Array Int} (h : ¬ i < b) : insOuter ltInt a b i d = d := by rw [insOuter, if_neg h]
set_option maxHeartbeats 4000000 in
set_option maxRecDepth 100000 in
theorem uInsertion_any {B g c a b n : Nat} {d : Array Int} {W : World} (h : UR B W g c d W) (hn : d.size = n) (hlen : n ≤ 1000000) (hab : a ≤ b) (hb : b ≤ n) :
    Calls Try.prog 81 #[.slice (some ⟨g, 0, none⟩) n c, .int .i64 a, .int .i64 b] W fun e w' => e = .returned (.tuple #[]) ∧ UR B W g c (insertionSort ltInt d a b) w' := by
  have H := Lib.hid h
  have HN := Lib.hid hn
  clear h hn
  go_enter Try.func81, Try.ntmps81
  go_wp2
  go_loopg [6] (b + 1) (fun k s6 wr => ∃ (i : Nat) (dk : Array Int), s6 = .int .i64 (i : Nat) ∧ b + 1 - i ≤ k ∧ a < i ∧ i ≤ b + 1 ∧ Hid (dk.size = n) ∧ Hid (UR B W g c dk wr) ∧ Hid (insOuter ltInt a b i dk = insertionSort ltInt d a b))
  case atStart => exact ⟨a + 1, d, by go_num, by omega, by omega, by omega, HN.out, H.out, rfl⟩
  case round =>
    obtain ⟨i, dk, rfl, hk, hai, hib, HS, HU, HQ⟩ := hrel
    obtain ⟨gz, rfl⟩ : ∃ gz : Nat, gz = gk := ⟨_, rfl⟩
    obtain ⟨wo, rfl⟩ : ∃ wo : World, wo = wr := ⟨_, rfl⟩
    by_cases hlt : i < b
    · have i1 : (i : Int) < (b : Int) := by omega
      go_wp2_with fail
      go_loopg [7] i (fun k s7 wx => ∃ (j : Nat) (dj : Array Int), s7 = .int .i64 (j : Nat) ∧ j ≤ k ∧ a ≤ j ∧ j ≤ i ∧ Hid (dj.size = n) ∧ Hid (UR B W g c dj wx) ∧ Hid (insInner ltInt a j dj = insInner ltInt a i dk))
      case atStart => exact ⟨i, dk, rfl, by omega, by omega, by omega, HS, HU, rfl⟩
      case round =>
        obtain ⟨j, dj, rfl, hjk, haj, hji, HS2, HU2, HQ2⟩ := hrel
        have HE : Hid ((j ≤ a ∨ ltInt dj[j]! dj[j - 1]! = false) → insOuter ltInt a b (i + 1) dj = insertionSort ltInt d a b) := fun hs => by
          rw [← HQ.out, insO_go hlt, ← HQ2.out, ins_end hs]
        by_cases hja : a < j
        · have j1 : (a : Int) < (j : Int) := by omega
          have cj := HU2.out.cell (i := j) (by rw [HS2.out]; omega)
          have ck := HU2.out.cell (i := j - 1) (by rw [HS2.out]; omega)
          have fj := HU2.out.free j
          have fk := HU2.out.free (j - 1)
          obtain ⟨x, hx⟩ := bang_eq dj j
          obtain ⟨y, hy⟩ := bang_eq dj (j - 1)
          obtain ⟨r, hr⟩ : ∃ r, ltInt x y = r := ⟨_, rfl⟩
          rw [hx] at cj
          rw [hy] at ck
          have HX := Lib.hid hx
          have HY := Lib.hid hy
          have HR := Lib.hid hr
          clear hx hy hr
          go_wp2
          go_quiet (first | (go_at_call 76; refine Calls.quiet_of_same (uLess_eq HR.out _)))
          cases r with
          | true =>
            go_wp2
            go_region
            all_goals go_wp2
            go_roundg (j - 1)
            case measure => omega
            case rel => exact ⟨j - 1, swp dj j (j - 1), by congr 1; omega, by omega, by omega, by omega, by rw [size_swp]; exact HS2.out, (HU2.out.drewN _).swapped HX.out HY.out, by rw [← ins_go hja (by rw [HX.out, HY.out]; exact HR.out)]; exact HQ2.out⟩
          | false =>
            go_wp2
            go_roundg (gz - 1)
            case measure => omega
            case rel => exact ⟨i + 1, dj, by go_num, by omega, by omega, by omega, HS2, HU2.out.drewN _, HE.out (.inr (by rw [HX.out, HY.out]; exact HR.out))⟩
        · have j1 : ¬ (a : Int) < (j : Int) := by omega
          go_wp2
          go_quiet (fail)
          go_wp2
          go_roundg (gz - 1)
          case measure => omega
          case rel => exact ⟨i + 1, dj, by go_num, by omega, by omega, by omega, HS2, HU2.out.drewN _, HE.out (.inl (by omega))⟩
    · have i1 : ¬ (i : Int) < (b : Int) := by omega
      go_wp2_with fail
      go_end0
      refine ⟨rfl, ?_⟩
      rw [← HQ.out, insO_end hlt]
      exact HU.out
end Go.Proofs.Ytfpoapmbpbkibaa
