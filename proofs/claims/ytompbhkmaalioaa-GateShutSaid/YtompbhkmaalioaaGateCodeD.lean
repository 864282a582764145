/-
  The way backward through a row of pointers, as a range over it sees it.
-/
import Derived.Test.YtompbhkmaalioaaGateCodeC
import Derived.Test.YtompbhkmaalioaaSeqA
namespace Go.Proofs.Ytompbhkmaalioaa
open Go.RowKit

attribute [local go_sem] Oper.semAt_some

/-- the call that makes it -/
theorem backward_any (A : Option Addr) (n c : Nat) (W : World) : Calls Try.prog 21 #[.slice A n c] W fun e w' =>
    e = .returned (.func (.func 24) #[] #[.pointer (some ⟨W.heap.size, 0, none⟩)]) ∧ w' = W.alloc (.cells #[.slice A n c] 28) := by
  go_enter Try.func21, Try.ntmps21
  go_wp2_with fail
  go_ret
  exact ⟨rfl, rfl⟩
theorem ge_at {w : World} {base e size n c : Nat} {A : Option Addr} {xs : List Value} (h : w.ownsRow base e size (.slice A n c) n xs) (hn : 0 < n) : ∃ q, A = some ⟨q, 0, none⟩ := by
  rcases h.2 with ⟨h0, h1⟩ | ⟨q, cap, cur, h0, _⟩
  · omega
  · injection h0 with e1 _ _
    exact ⟨q, e1⟩
/-- a row in a block of B stays -/
theorem Left.rowB {B Y Y' : List Nat} {w w' : World} (h : Left B Y w w' Y') {base e size n : Nat} {v : Value} {xs : List Value} (hr : w.ownsRow base e size v n xs) (hn : ∀ q, v.ownBlock = some q → q ∈ B) : w'.ownsRow base e size v n xs := by
  obtain ⟨⟨G, t, hG⟩, _⟩ := h
  exact t.row hr (fun q hq z => (hG q z).2 (hn q hq))
/-- what a round is handed -/
abbrev encG (x : GP × Nat) : Array Value := #[.int .i64 (x.2 : Nat), .agg (gE x.1)]
theorem back_at {l : List GP} {n m j : Nat} (hn : l.length = n) (hm : m + (j + 1) = n) {p : GP} (hp : l[j]? = some p) : l.zipIdx.reverse[m]? = some (p, j) := by
  rw [List.getElem?_reverse (by rw [List.length_zipIdx, hn]; omega), List.length_zipIdx, hn, show n - 1 - m = j by omega, List.getElem?_zipIdx, hp]
  simp
set_option maxRecDepth 100000 in
set_option maxHeartbeats 4000000 in
theorem backWay {W : World} {A : Option Addr} {n c : Nat} {l : List GP} (hr : W.ownsRow 0 54 3 (.slice A n c) n (rowC gE l)) (hn : l.length = n) (hsm : n ≤ 100000) {b : Nat} (hc : W.cell? ⟨b, 0, none⟩ = some (.slice A n c)) :
    WayY 24 #[.pointer (some ⟨b, 0, none⟩)] encG l.zipIdx.reverse (b :: (Value.slice A n c).ownBlock.toList) W := by
  intro lp J Q Y0 hY0 h0 hJ hQ hR
  have H0 := Lib.hid h0
  have HJ := Lib.hid hJ
  have HR := Lib.hid hR
  have HY0 := Lib.hid hY0
  have HO := Lib.hid hr
  have HN := Lib.hid hn
  have HC := Lib.hid hc
  have z0 : IntKind.i64.wrap ((n : Int) - 1) = (n : Int) - 1 := by rw [IntKind.wrap_i64]; omega
  obtain ⟨B, hB⟩ : ∃ B, b :: (Value.slice A n c).ownBlock.toList = B := ⟨_, rfl⟩
  have HBB : Hid (∀ q, (Value.slice A n c).ownBlock = some q → q ∈ B) := fun q hq => by rw [← hB]; exact List.mem_cons_of_mem _ (Option.mem_toList.2 hq)
  have Hb : Hid (b ∈ B) := by show b ∈ B; rw [← hB]; simp
  have HC2 : Hid (∀ w Y, Left B Y0 W w Y → w.cell? ⟨b, 0, none⟩ = some (.slice A n c)) := fun w Y h => h.cellB (p := ⟨b, 0, none⟩) HC.out Hb.out
  rw [hB] at HR ⊢
  clear h0 hJ hR hQ hY0 hr hn hB
  go_enter Try.func24, Try.ntmps24
  go_wp2
  clear hc
  go_loopg [3] (n + 1) (fun gh s3 wx => ∃ (k m : Nat) (z : Int) (Y : List Nat), gh = k + 1 ∧ m + k = n ∧ z = (k : Int) - 1 ∧ s3 = .int .i64 z ∧ Hid (J m wx Y) ∧ Hid (Left B Y0 W wx Y))
  case atStart => exact ⟨n, 0, _, Y0, rfl, by omega, rfl, rfl, H0.out, Left.refl HY0.out⟩
  case round =>
    obtain ⟨k, m, z, Y, hgk, hk, hz, rfl, HJi, HL⟩ := hrel
    by_cases h0 : z ≥ 0
    · obtain ⟨j, rfl⟩ : ∃ j, k = j + 1 := ⟨k - 1, by omega⟩
      obtain rfl : z = (j : Int) := by omega
      have d0 : decide ((j : Int) ≥ 0) = true := decide_eq_true h0
      have zj : IntKind.i64.wrap ((j : Int) - 1) = (j : Int) - 1 := by rw [IntKind.wrap_i64]; omega
      have hj : j < l.length := by rw [HN.out]; omega
      have i1 : (j : Int) < (n : Int) := by omega
      obtain ⟨p, hp⟩ : ∃ p, l[j]? = some p := ⟨_, List.getElem?_eq_getElem hj⟩
      have hx := back_at HN.out hk hp
      have hrow := HL.out.rowB HO.out HBB.out
      obtain ⟨q, rfl⟩ := ge_at hrow (by omega)
      have cell : ∀ i v, i < 3 → (gE p)[i]? = some v → wr.cell? ⟨q, j * 3 + i, none⟩ = some v := fun i v hi hv => by
        have z := hrow.cells (g := q) rfl (j * 3 + i) v (by rw [rowC_get gE_size l j i p hp hi]; exact hv)
        rw [Go.WideShapes.add_plain, Nat.zero_add] at z
        exact z
      have e0 := cell 0 _ (by decide) rfl
      have e1 := cell 1 _ (by decide) rfl
      have e2 := cell 2 _ (by decide) rfl
      rw [Nat.add_zero] at e0
      have b3 := HC2.out wr Y HL.out
      have hY1 := HR.out m (p, j) wr Y hx HJi.out (fun q hq => (HL.out.2 q hq).1)
      clear cell h0 hz hx hrow hp hj
      go_upto_region 3 with fail
      obtain ⟨fn, tmps, assign, body, hy, hr⟩ := hY1
      have HRR := Lib.hid hr
      clear hr
      refine (wpIn_wide (n := 0)).1 ?_
      gi_wp2
      refine ⟨rfl, ?_⟩
      refine (RoundIn.deep HRR.out).mono ?_
      rintro e w2 ⟨Y2, hL2, (⟨rfl, hj⟩ | ⟨rfl, hq⟩)⟩
      · have HL3 := Lib.hid (HL.out.trans hL2)
        have HJ3 := Lib.hid hj
        clear hL2 hj hy e0 e1 e2 b3
        gi_wp2
        go_wp2_with fail
        go_roundg (gk - 1)
        case measure => omega
        case rel => exact ⟨j, m + 1, _, Y2, by omega, by omega, rfl, by go_num, HJ3, HL3⟩
      · clear hy e0 e1 e2 b3
        gi_wp2
        go_wp2_with fail
        refine bodyPost_ret (results_none rfl _ _ _) rfl ?_
        exact ⟨rfl, Y2, HL.out.trans hL2, .inr hq⟩
    · have d0 : decide (z ≥ 0) = false := decide_eq_false h0
      obtain rfl : k = 0 := by omega
      have HLZ : Hid (l.length = m) := by show l.length = m; rw [HN.out]; omega
      clear hz
      go_wp2_with fail
      go_end0
      exact ⟨rfl, Y, HL.out, .inl (by rw [HLZ.out]; exact HJi.out)⟩
end Go.Proofs.Ytompbhkmaalioaa
