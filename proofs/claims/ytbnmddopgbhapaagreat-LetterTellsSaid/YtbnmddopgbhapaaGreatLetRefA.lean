/-
  The document's own letters, walked: byteful, numeral, lines, flag; numbers and texts.
-/
import Derived.Test.YtbnmddopgbhapaaGreatLetRefPure
import Derived.Test.YtbnmddopgbhapaaGreatPackRef
import Derived.Deep.QuietTactic
import Derived.BigQuiet
import Derived.Deep.DeepCutAuto
namespace Go.Proofs.YtbnmddopgbhapaaGreat
open Go.RowKit

theorem byteful_any (v : Int) (W : World) : Calls Tryz.prog 21 #[.int .i64 v] W fun e w' => e = .returned (.bool (byteB v)) ∧ W = w' := by
  unfold byteB
  by_cases h : 0 ≤ v
  · have d : decide (0 ≤ v) = true := decide_eq_true h
    rw [d, Bool.true_and]
    go_enter Tryz.func21, Tryz.ntmps21
    go_wp2
    go_ret
    exact ⟨rfl, rfl⟩
  · have d : decide (0 ≤ v) = false := decide_eq_false h
    rw [d, Bool.false_and]
    go_enter Tryz.func21, Tryz.ntmps21
    go_wp2
    go_ret
    exact ⟨rfl, rfl⟩
theorem numeral_any (v : Int) (W : World) : Calls Tryz.prog 22 #[.int .i64 v] W fun e w' => e = .returned (.bool (numeB v)) ∧ W = w' := by
  unfold numeB
  by_cases h : 0 ≤ v
  · have d : decide (0 ≤ v) = true := decide_eq_true h
    rw [d, Bool.true_and]
    go_enter Tryz.func22, Tryz.ntmps22
    go_wp2
    go_ret
    exact ⟨rfl, rfl⟩
  · have d : decide (0 ≤ v) = false := decide_eq_false h
    rw [d, Bool.false_and]
    go_enter Tryz.func22, Tryz.ntmps22
    go_wp2
    go_ret
    exact ⟨rfl, rfl⟩
theorem flag_any (b : Bool) (W : World) : Calls Tryz.prog 28 #[.bool b] W fun e w' => e = .returned (.int .i64 (if b then 1 else 0)) ∧ W = w' := by
  cases b
  · go_enter Tryz.func28, Tryz.ntmps28
    go_wp2
    go_ret
    exact ⟨rfl, rfl⟩
  · go_enter Tryz.func28, Tryz.ntmps28
    go_wp2
    go_ret
    exact ⟨rfl, rfl⟩
theorem dnum_any (v : Int) (W : World) (h0 : 0 ≤ v) (h1 : v ≤ 65535) :
    Calls Tryz.prog 24 #[.int .i64 v] W fun e w' => e = .returned (.string (numT v)) ∧ Below W.heap.size W w' := by
  obtain ⟨x, rfl⟩ := Int.eq_ofNat_of_zero_le h0
  have e : okNum (x : Int) = true := by simp [okNum]; omega
  rw [numT, if_pos e, Int.toNat_natCast]
  exact refNum_any x W (by omega)
theorem lineB_false {l : List Item} {j : Nat} (h : j < l.length) (hx : lineB (l[j]) = false) : linesB l = false := by
  have : l.all lineB = false := by
    cases ha : l.all lineB with
    | false => rfl
    | true => rw [List.all_eq_true.1 ha _ (List.getElem_mem h)] at hx; cases hx
  rw [linesB, this]; rfl
theorem lineB_all {l : List Item} (h : ∀ q (hq : q < l.length), lineB (l[q]) = true) : linesB l = decide (l.length ≤ 40) := by
  have : l.all lineB = true := List.all_eq_true.2 fun x hx => by obtain ⟨j, hj, rfl⟩ := List.getElem_of_mem hx; exact h j hj
  rw [linesB, this]; rfl
set_option maxRecDepth 20000 in
set_option maxHeartbeats 2000000 in
theorem lines_any (ls : List Item) (S : Value) (W : World) (hS : SlAt W S ls) (hB : itemsB ls) :
    Calls Tryz.prog 23 #[S] W fun e w' => e = .returned (.bool (linesB ls)) ∧ W = w' := by
  obtain ⟨A, c, rfl, x1, x2, hA⟩ := hS
  obtain ⟨n, hn⟩ : ∃ n, ls.length = n := ⟨_, rfl⟩
  have HN := Lib.hid hn
  have HA := Lib.hid hA
  have HLB := Lib.hid hB
  have hn0 := hB.1
  rw [hn] at hn0 x1
  rw [hn]
  clear hA hB hn
  go_enter Tryz.func23, Tryz.ntmps23
  go_wp2
  go_loopg [3] (n + 1) (fun z s3 wx => ∃ (j : Nat), j + z = n + 1 ∧ j ≤ n ∧ s3 = .int .i64 (j : Nat) ∧ Hid (∀ q (h : q < ls.length), q < j → lineB (ls[q]) = true) ∧ wx = W)
  case atStart => exact ⟨0, by omega, by omega, rfl, fun q _ hq => absurd hq (Nat.not_lt_zero _), rfl⟩
  case round =>
    obtain ⟨j, hjz, hjn, rfl, HT, rfl⟩ := hrel
    by_cases hlt : j < n
    · obtain ⟨b, off, hAt⟩ := HA.out
      have hjl : j < ls.length := by rw [HN.out]; exact hlt
      obtain ⟨eA, -, y0, y1⟩ := hAt j hjl
      subst eA
      have hx := HLB.out.2 (ls[j]) (List.getElem_mem _)
      have HX : Hid (lineB (ls[j]) = (decide ((ls[j]).1.size ≤ 255) && decide ((ls[j]).2.size ≤ 255))) := rfl
      generalize (ls[j]).1 = u at *
      generalize (ls[j]).2 = v at *
      have hu := hx.1
      have hv := hx.2
      have bj : decide ((j : Int) < (n : Int)) = true := by simp; omega
      clear hAt hx
      by_cases hu3 : 255 < u.size
      · have d1 : decide ((255 : Int) < (u.size : Int)) = true := by simp; omega
        have HF0 : Hid (linesB ls = false) := lineB_false hjl (by rw [HX.out, decide_eq_false (by omega)]; rfl)
        clear hu hv
        go_wp2
        go_ret
        exact ⟨by rw [HF0.out]; rfl, rfl⟩
      · have d1 : decide ((255 : Int) < (u.size : Int)) = false := by simp; omega
        by_cases hv3 : 255 < v.size
        · have d2 : decide ((255 : Int) < (v.size : Int)) = true := by simp; omega
          have HF0 : Hid (linesB ls = false) := lineB_false hjl (by rw [HX.out, decide_eq_false (show ¬ v.size ≤ 255 by omega), Bool.and_false])
          clear hu hv
          go_wp2
          go_ret
          exact ⟨by rw [HF0.out]; rfl, rfl⟩
        · have d2 : decide ((255 : Int) < (v.size : Int)) = false := by simp; omega
          have HY : Hid (lineB (ls[j]) = true) := by
            show _ = _
            rw [HX.out, decide_eq_true (by omega), decide_eq_true (show v.size ≤ 255 by omega)]; rfl
          clear hu hv
          go_wp2
          go_roundg (gk - 1)
          case measure => omega
          case rel =>
            refine ⟨j + 1, by omega, by omega, by go_num, fun q h hq => ?_, rfl⟩
            rcases Nat.lt_succ_iff_lt_or_eq.1 hq with hq | rfl
            · exact HT.out q h hq
            · exact HY.out
    · have bj : decide ((j : Int) < (n : Int)) = false := by simp; omega
      have HY : Hid (linesB ls = decide ((n : Int) ≤ 40)) := by
        show _ = _
        have hN := HN.out
        rw [lineB_all (fun q hq => HT.out q hq (by omega)), hN]
        exact decide_eq_decide.2 (by omega)
      go_wp2
      go_ret
      exact ⟨by rw [HY.out]; rfl, rfl⟩
end Go.Proofs.YtbnmddopgbhapaaGreat
