/-
  Parts in memory: a row of them; which are alike; where a point lies among them (the library's BinarySearchFunc with the code's closure).
-/
import Derived.Test.YthjhfnbcfgkehaaPartOps
import Derived.Test.YthjhfnbcfgkehaaViewPartsB
import Derived.Test.YthjhfnbcfgkehaaRowSets
import Derived.Deep.LoopGhost
import Derived.Deep.MidRow
import Derived.Deep.QuietTactic
namespace Go.Proofs.Ythjhfnbcfgkehaa
open Go.RowKit

abbrev PT.cells (p : PT) : Array Value := #[.int .u64 (p.x : Nat), .int .i64 p.n, .int .i64 p.e]
abbrev partC (l : List PT) : List Value := rowC PT.cells l
theorem pt_size (p : PT) : p.cells.size = 3 := rfl
theorem pt_one (p : PT) : p.cells.all (·.oneCell') = true := by simp [PT.cells, Value.oneCell']
theorem partC_one (l : List PT) : ∀ u ∈ partC l, u.oneCell' = true := rowC_all fun p _ => pt_one p
/-- a list of parts in memory -/
abbrev PtRow (W : World) (base : Nat) (v : Value) (n : Nat) (P : List PT) : Prop := W.ownsRow base 50 3 v n (partC P)
theorem pr_at {W : World} {A : Option Addr} {n c : Nat} {xs : List Value} {base e size : Nat} (h : W.ownsRow base e size (.slice A n c) n xs) (hn : 0 < n) : ∃ q, A = some ⟨q, 0, none⟩ := by
  rcases h.2 with ⟨h0, _⟩ | ⟨g, cap, cur, h0, _⟩
  · injection h0 with _ h1 _; omega
  · injection h0 with h1 _ _; exact ⟨g, h1⟩
theorem pr_below {V w1 : World} {base e size n : Nat} {v : Value} {xs : List Value} (h : V.ownsRow base e size v n xs) (b : Below V.heap.size V w1) : w1.ownsRow base e size v n xs := Touch.row (Touch.ofBelow (F := []) b) h (by simp)
theorem pr_len {W : World} {base n : Nat} {v : Value} {P : List PT} (h : PtRow W base v n P) : P.length = n := by
  have := h.1
  rw [rowC_length pt_size] at this
  omega
theorem pr_slice {W : World} {base e size n : Nat} {v : Value} {xs : List Value} (h : W.ownsRow base e size v n xs) : ∃ A c, v = .slice A n c ∧ n ≤ c ∧ c ≤ maxLen := by
  rcases h.2 with ⟨rfl, rfl⟩ | ⟨g, cap, cur, h0, _, _, h1, h2, _⟩
  · exact ⟨none, 0, rfl, Nat.le_refl _, Nat.zero_le _⟩
  · exact ⟨_, _, h0, h1, h2⟩
theorem pr_range {W : World} {q c n k base : Nat} {P : List PT} (h : PtRow W base (.slice (some ⟨q, 0, none⟩) n c) n P) {p : PT} (hk : P[k]? = some p) : W.rangeAt q (k * 3) p.cells.toList := by
  intro j v hj
  have hl : k < P.length := (List.getElem?_eq_some_iff.1 hk).1
  have hj3 : j < 3 := (List.getElem?_eq_some_iff.1 hj).1
  have hlen := rowC_length pt_size P
  have := h.cellAt (k * 3 + j) (by have := h.1; rw [hlen] at this; omega)
  rw [this, rowC_get pt_size P k j p hk hj3, ← Array.getElem?_toList]
  exact hj
theorem pt_info : (Try.prog.info? 50).map (·.size) = some 3 := by kernel_rfl
theorem pt_box (W : World) (p : PT) : (W.alloc (.cells p.cells 50)).cell? ⟨W.heap.size, 0, none⟩ = some (.int .u64 (p.x : Nat)) ∧ (W.alloc (.cells p.cells 50)).cell? ⟨W.heap.size, 1, none⟩ = some (.int .i64 p.n) ∧ (W.alloc (.cells p.cells 50)).cell? ⟨W.heap.size, 2, none⟩ = some (.int .i64 p.e) := by
  refine ⟨?_, ?_, ?_⟩ <;> go_simp
/-- are two alike? -/
def likeB (p q : PT) : Bool := (p.n == q.n) && (p.e == q.e)
theorem likeB_iff {p q : PT} : likeB p q = true ↔ p.v = q.v := by
  unfold likeB PT.v
  rw [Bool.and_eq_true, beq_iff_eq, beq_iff_eq, Prod.mk.injEq]
set_option maxRecDepth 20000 in
theorem alike_any (p q : PT) (W : World) : Calls Try.prog 33 #[.agg p.cells, .agg q.cells] W fun e w' => e = .returned (.bool (likeB p q)) ∧ Below W.heap.size W w' := by
  have B1 : Below W.heap.size W ((W.alloc (.cells p.cells 50)).alloc (.cells q.cells 50)) := ((Below.refl _ _).alloc (Nat.le_refl _) _).alloc (by simp) _
  cases d1 : (p.n == q.n) with
  | false =>
    have hl : likeB p q = false := by unfold likeB; rw [d1]; rfl
    rw [hl]
    clear hl
    have HB := Lib.hid B1
    clear B1
    go_enter Try.func33, Try.ntmps33
    go_wp2
    go_ret
    exact ⟨rfl, HB.out⟩
  | true =>
    have hl : likeB p q = (p.e == q.e) := by unfold likeB; rw [d1]; rfl
    rw [hl]
    clear hl
    have HB := Lib.hid B1
    clear B1
    go_enter Try.func33, Try.ntmps33
    go_wp2
    go_ret
    exact ⟨rfl, HB.out⟩
set_option maxRecDepth 20000 in
theorem cmp_any (a b : Nat) (W : World) : Calls Try.prog 30 #[.int .u64 (a : Nat), .int .u64 (b : Nat)] W fun e w' => ∃ r : Int, e = .returned (.int .i64 r) ∧ decide (r < 0) = decide (a < b) ∧ (r == 0) = (a == b) ∧ w' = W := by
  have e1 : ((a : Int) == (a : Int)) = true := beq_self_eq_true _
  have e2 : ((b : Int) == (b : Int)) = true := beq_self_eq_true _
  rcases Nat.lt_trichotomy a b with h | h | h
  · have d1 : decide ((a : Int) < (b : Int)) = true := decide_eq_true (by omega)
    go_enter Try.func30, Try.ntmps30
    go_wp2
    go_ret
    refine ⟨-1, rfl, ?_, ?_, rfl⟩
    · rw [decide_eq_true h]; rfl
    · rw [beq_eq_false_iff_ne.2 (by omega : a ≠ b)]; rfl
  · subst h
    have d1 : decide ((a : Int) < (a : Int)) = false := decide_eq_false (by omega)
    go_enter Try.func30, Try.ntmps30
    go_wp2
    go_ret
    refine ⟨0, rfl, ?_, ?_, rfl⟩
    · rw [decide_eq_false (Nat.lt_irrefl a)]; rfl
    · rw [beq_self_eq_true a]; rfl
  · have d1 : decide ((a : Int) < (b : Int)) = false := decide_eq_false (by omega)
    have d2 : decide ((b : Int) < (a : Int)) = true := decide_eq_true (by omega)
    go_enter Try.func30, Try.ntmps30
    go_wp2
    go_ret
    refine ⟨1, rfl, ?_, ?_, rfl⟩
    · rw [decide_eq_false (by omega : ¬ a < b)]; rfl
    · rw [beq_eq_false_iff_ne.2 (by omega : a ≠ b)]; rfl
set_option maxRecDepth 20000 in
theorem place_any (p : PT) (x : Nat) (W : World) : Calls Try.prog 29 #[.agg p.cells, .int .u64 (x : Nat)] W fun e w' => ∃ r : Int, e = .returned (.int .i64 r) ∧ decide (r < 0) = decide (p.x < x) ∧ (r == 0) = (p.x == x) ∧ Below W.heap.size W w' := by
  have B1 : Below W.heap.size W (W.alloc (.cells p.cells 50)) := (Below.refl _ _).alloc (Nat.le_refl _) _
  have HB := Lib.hid B1
  clear B1
  go_enter Try.func29, Try.ntmps29
  go_wp2_with (go_at_call 30; (with_reducible refine (cmp_any _ _ _).mono ?_); rintro e w2 ⟨r, rfl, h1, h2, rfl⟩; have H1 := Lib.hid h1; have H2 := Lib.hid h2; clear h1 h2)
  go_ret
  exact ⟨r, rfl, H1.out, H2.out, HB.out⟩
def SearchPost (W : World) (P : List PT) (x n : Nat) (e : Ending) (w' : World) : Prop :=
  ∃ (i : Nat) (b : Bool), e = .returned (.tuple #[.int .i64 (i : Nat), .bool b]) ∧ i ≤ n ∧ (∀ k p, P[k]? = some p → k < i → p.x < x) ∧ (b = true → ∃ p, P[i]? = some p ∧ p.x = x) ∧ (b = false → ∀ k p, P[k]? = some p → i ≤ k → x < p.x) ∧ Below W.heap.size W w'
set_option maxRecDepth 20000 in
set_option maxHeartbeats 2000000 in
/-- how many begin ahead of x, and whether one begins there -/
theorem search_any (P : List PT) (x : Nat) (A : Option Addr) (c n : Nat) (W : World) (hl : n ≤ 200000) (hr : PtRow W 0 (.slice A n c) n P) (hu : Up P) :
    Calls Try.prog 28 #[.slice A n c, .int .u64 (x : Nat), .func (.func 29) #[] #[]] W (SearchPost W P x n) := by
  have hn := pr_len hr
  have CE : Hid (∀ (w : World) (p : PT), Calls Try.prog 29 #[.agg p.cells, .int .u64 (x : Nat)] w fun e w' => ∃ r : Int, e = .returned (.int .i64 r) ∧ decide (r < 0) = decide (p.x < x) ∧ (r == 0) = (p.x == x) ∧ Below w.heap.size w w') := fun w p => place_any p x w
  have hi : ∀ a w, (callFunc 29 a).run Try.prog w = .ok (.enter 29 a) w := fun _ _ => by kernel_rfl
  have HR : Hid (∀ (w : World) (k : Nat) (p : PT), Below W.heap.size W w → P[k]? = some p → ∃ g, A = some ⟨g, 0, none⟩ ∧ w.rangeAt g (k * 3) p.cells.toList) := fun w k p hw hk => by
    have hk' : k < P.length := (List.getElem?_eq_some_iff.1 hk).1
    obtain ⟨g, rfl⟩ := pr_at hr (by omega)
    exact ⟨g, rfl, pr_range (pr_below hr hw) hk⟩
  have HUP : Hid (∀ (i k : Nat) (p q : PT), P[i]? = some p → P[k]? = some q → i < k → p.x < q.x) := fun i k p q h1 h2 hik => by
    obtain ⟨l1, rfl⟩ := List.getElem?_eq_some_iff.1 h1
    obtain ⟨l2, rfl⟩ := List.getElem?_eq_some_iff.1 h2
    exact List.pairwise_iff_getElem.1 hu i k l1 l2 hik
  have HN := Lib.hid hn
  have hsz : (Try.prog.info? 50).map (·.size) = some 3 := pt_info
  clear hr hn hu
  go_enter Try.func28, Try.ntmps28
  go_wp2_with fail
  go_loopg [9, 10] (n + 1) (fun gh s9 s10 wx => ∃ i j : Nat, i + gh = j + 1 ∧ i ≤ j ∧ j ≤ n ∧ s9 = .int .i64 (i : Nat) ∧ s10 = .int .i64 (j : Nat) ∧ Hid (Below W.heap.size W wx) ∧ Hid (∀ k p, P[k]? = some p → k < i → p.x < x) ∧ Hid (∀ k p, P[k]? = some p → j ≤ k → x ≤ p.x))
  case atStart => exact ⟨0, n, by omega, by omega, by omega, rfl, rfl, Below.refl _ _, fun k p _ h => by omega, fun k p hk h => by have := (List.getElem?_eq_some_iff.1 hk).1; have := HN.out; omega⟩
  case round =>
    obtain ⟨i, j, hig, hij, hjn, rfl, rfl, HB, HF, HG⟩ := hrel
    by_cases hlt : i < j
    · have i1 : (i : Int) < (j : Int) := by omega
      obtain ⟨m, hm⟩ : ∃ m, (i + j) / 2 = m := ⟨_, rfl⟩
      have hmi : ((i : Int) + (j : Int)) / 2 = (m : Nat) := by omega
      have m1 : m < j := by omega
      have m2 : i ≤ m := by omega
      have m3 : (m : Int) < (n : Int) := by omega
      obtain ⟨p, hp⟩ : ∃ p, P[m]? = some p := ⟨_, List.getElem?_eq_getElem (by rw [HN.out]; omega)⟩
      obtain ⟨g, rfl, hra⟩ := HR.out wr m p HB.out hp
      have HRA := Lib.hid hra
      have HP := Lib.hid hp
      have CX := Lib.hid (CE.out wr p)
      clear hra hp hm
      by_cases hq : p.x < x
      · have hq' : decide (p.x < x) = true := decide_eq_true hq
        go_wp2_with (first
          | (refine wpList_load_mid rfl 50 (.tmp 27) rfl g (m * 3) rfl p.cells.toList _ HRA.out Try.underlying50 rfl hsz ?_)
          | (go_at_call 29; (with_reducible refine (CX.out).mono ?_); rintro e w2 ⟨r, rfl, hr1, -, hb2⟩; rw [hq'] at hr1; have HB2 := Lib.hid hb2; clear hb2))
        go_roundg (j - m)
        case measure => omega
        case rel => exact ⟨m + 1, j, by omega, by omega, by omega, by go_num, rfl, acc HB.out HB2.out, fun k p' hk hkm => by
          rcases Nat.lt_succ_iff_lt_or_eq.1 hkm with z | rfl
          · exact Nat.lt_trans (HUP.out _ _ _ _ hk HP.out z) hq
          · rw [HP.out] at hk; injection hk with hk; subst hk; exact hq, HG⟩
      · have hq' : decide (p.x < x) = false := decide_eq_false hq
        go_wp2_with (first
          | (refine wpList_load_mid rfl 50 (.tmp 27) rfl g (m * 3) rfl p.cells.toList _ HRA.out Try.underlying50 rfl hsz ?_)
          | (go_at_call 29; (with_reducible refine (CX.out).mono ?_); rintro e w2 ⟨r, rfl, hr1, -, hb2⟩; rw [hq'] at hr1; have HB2 := Lib.hid hb2; clear hb2))
        go_roundg (m + 1 - i)
        case measure => omega
        case rel => exact ⟨i, m, by omega, by omega, by omega, rfl, rfl, acc HB.out HB2.out, HF, fun k p' hk hkm => by
          rcases Nat.lt_or_eq_of_le hkm with z | rfl
          · have := HUP.out _ _ _ _ HP.out hk z; omega
          · rw [HP.out] at hk; injection hk with hk; subst hk; omega⟩
    · obtain rfl : i = j := by omega
      have i1 : ¬ (i : Int) < (i : Int) := by omega
      by_cases hin : i < n
      · have i2 : (i : Int) < (n : Int) := by omega
        obtain ⟨p, hp⟩ : ∃ p, P[i]? = some p := ⟨_, List.getElem?_eq_getElem (by rw [HN.out]; omega)⟩
        obtain ⟨g, rfl, hra⟩ := HR.out wr i p HB.out hp
        have HRA := Lib.hid hra
        have HP := Lib.hid hp
        have CX := Lib.hid (CE.out wr p)
        clear hra hp
        obtain ⟨b, hb⟩ : ∃ b, (p.x == x) = b := ⟨_, rfl⟩
        rw [hb] at CX
        have HBB := Lib.hid hb
        clear hb
        go_wp2_with (first
          | (refine wpList_load_midG (by rfl) 50 (.tmp 43) rfl g (i * 3) rfl p.cells.toList _ HRA.out Try.underlying50 rfl hsz ?_)
          | (go_at_call 29; (with_reducible refine (CX.out).mono ?_); rintro e w2 ⟨r, rfl, -, hr1, hb2⟩; have HB2 := Lib.hid hb2; clear hb2))
        go_ret2
        refine ⟨i, b, rfl, hjn, HF.out, fun e => ⟨p, HP.out, ?_⟩, fun e k q hk hki => ?_, acc HB.out HB2.out⟩
        · rw [e] at HBB
          exact of_decide_eq_true HBB.out
        · have h1 := HG.out i p HP.out (Nat.le_refl _)
          have h2 : p.x ≠ x := by
            have := HBB.out
            rw [e] at this
            exact of_decide_eq_false this
          rcases Nat.lt_or_eq_of_le hki with z | rfl
          · have := HUP.out _ _ _ _ HP.out hk z; omega
          · rw [HP.out] at hk; injection hk with hk; subst hk; omega
      · have i2 : ¬ (i : Int) < (n : Int) := by omega
        clear CE HR
        go_wp2_with fail
        refine bodyPost_ret (v := .tuple #[.int .i64 (i : Nat), .bool false]) (by simp [results, Try.results28, go_sem]) rfl ?_
        refine ⟨i, false, rfl, hjn, HF.out, (fun e => by cases e), fun _ k q hk hki => ?_, HB.out⟩
        have := (List.getElem?_eq_some_iff.1 hk).1
        have := HN.out
        omega
end Go.Proofs.Ythjhfnbcfgkehaa
