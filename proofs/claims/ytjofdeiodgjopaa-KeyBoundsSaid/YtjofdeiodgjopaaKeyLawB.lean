/-
  The walk of the statement KeyBounds of chapter 1.
-/
import Derived.Test.YtjofdeiodgjopaaKeyLaws
namespace Go.Proofs.Ytjofdeiodgjopaa
open Go.RowKit

theorem replicate_set (n k : Nat) (x y : UInt8) (h : k < n) : (List.replicate k x ++ List.replicate (n - k) y).set k x = List.replicate (k + 1) x ++ List.replicate (n - (k + 1)) y := by
  obtain ⟨m, hm⟩ : ∃ m, n - k = m + 1 := ⟨n - k - 1, by omega⟩
  rw [hm, show n - (k + 1) = m by omega, List.set_append_right _ _ (by simp), List.length_replicate, Nat.sub_self, List.replicate_succ (n := m), List.set_cons_zero, List.replicate_succ', List.append_assoc]
  rfl

set_option maxHeartbeats 400000 in
theorem keyBounds_walk (n c : Int) (w : World) (hn0 : -9223372036854775808 ≤ n) (hn1 : n ≤ 9223372036854775807) (hc0 : 0 ≤ c) (hc1 : c ≤ 255) :
    Calls Try.prog 6 #[.int .i64 n, .int .u8 c] w fun e w' => e = .returned (.bool true) ∧ Below w.heap.size w w' := by
  by_cases h1 : n < 0
  · go_enter Try.func6, Try.ntmps6
    go_wp2_with (go_at_call 10; refine (alive_any _).mono ?_; rintro e w' ⟨rfl, hw⟩)
    go_ret
    exact ⟨rfl, hw⟩
  by_cases h2 : 100 < n
  · go_enter Try.func6, Try.ntmps6
    go_wp2_with (go_at_call 10; refine (alive_any _).mono ?_; rintro e w' ⟨rfl, hw⟩)
    go_ret
    exact ⟨rfl, hw⟩
  obtain ⟨m, rfl⟩ := Int.eq_ofNat_of_zero_le (show 0 ≤ n by omega)
  obtain ⟨b, hb⟩ : ∃ b : UInt8, (b.toNat : Int) = c := ⟨UInt8.ofNat c.toNat, by simp; omega⟩
  obtain rfl := hb
  have hmk := run_make_bytes m (by omega)
  go_enter Try.func6, Try.ntmps6
  go_wp2_with (go_at_call 10; refine (alive_any _).mono ?_; rintro e w1 ⟨rfl, hw⟩)
  clear hmk
  have hown0 := own_zcells m (by omega) w1
  have hbel0 := hw.alloc hw.size (.cells (zcells m) 5)
  go_loopg [22] (m + 1) (fun g s22 wx => ∃ (k : Nat), k + g = m + 1 ∧ k ≤ m ∧ s22 = .int .i64 k ∧ wx.ownsRow w1.heap.size 5 1 (.slice (some ⟨w1.heap.size, 0, none⟩) m m) m ((List.replicate k b ++ List.replicate (m - k) 0).map cell8) ∧ Below w.heap.size w wx)
  case atStart => exact ⟨0, by omega, by omega, rfl, by simpa using hown0, hbel0⟩
  case round =>
    obtain ⟨k, hkg, hkm, rfl, hown, hbel⟩ := hrel
    clear hown0 hbel0
    have hsz := hw.size
    clear hw
    by_cases hk : k < m
    · have hc := hown.cellAt k (by omega)
      have hf := hown.frozenAt k
      have hst := hown.stored k (cell8 b)
      rw [List.getElem?_map, List.getElem?_append_right (by simp), List.length_replicate, Nat.sub_self, List.getElem?_replicate, if_pos (by omega)] at hc
      have hc' : wr.cell? ⟨w1.heap.size, k, none⟩ = some (.int .u8 0) := hc
      clear hc
      have b1 : decide (k < m) = true := by simp; omega
      have HO := Lib.hid hst
      clear hst hown
      go_wp2
      go_roundg (gk - 1)
      case measure => omega
      case rel => 
        refine ⟨k + 1, by omega, by omega, by go_num, ?_, hbel.setCell hsz _⟩
        have e := replicate_set m k b 0 hk
        rw [← e, List.map_set]
        exact HO.out.1
    · obtain rfl : k = m := by omega
      have e : List.replicate k b ++ List.replicate (k - k) 0 = List.replicate k b := by simp
      rw [e] at hown
      have hstr := run_own_string (P := Try.prog) 32 9 hown Try.underlying32 Try.underlying5 Try.underlying9
      have hs : (txt (List.replicate k b)).size = k := by rw [txt_size, List.length_replicate]
      generalize txt (List.replicate k b) = s at *
      have cr := fun W => right_any s W (by unfold maxLen; omega)
      have cv := fun W => value_any s W (by unfold maxLen; omega)
      have HB := Lib.hid hbel
      clear hown hbel hsz
      by_cases h3 : k = 0
      · have e1 : rightN s = 3 := by simp [rightN, hs, h3]
        have e2 : valueN s = 0 := by simp [valueN, hs, h3]
        rw [e1] at cr
        rw [e2] at cv
        have b1 : decide ((1 : Int) ≤ (k : Int)) = false := by simp [h3]
        have b2 : decide ((k : Int) ≤ 16) = true := by simp [h3]
        clear h3 e1 e2 hs
        go_wp2_with (first
            | (go_at_call 11; refine (cr _).mono ?_; rintro e w' ⟨rfl, rfl⟩)
            | (go_at_call 13; refine (cv _).mono ?_; rintro e w' ⟨rfl, rfl⟩))
        go_ret
        exact ⟨rfl, HB.out⟩
      by_cases h4 : k ≤ 16
      · have e1 : rightN s = 0 := by simp [rightN, hs, h3]; omega
        have e2 : valueN s = 0 := by simp [valueN, hs]; omega
        rw [e1] at cr
        rw [e2] at cv
        have b2 : decide ((k : Int) ≤ 16) = true := by simp; omega
        have b1 : decide ((1 : Int) ≤ (k : Int)) = true := by simp; omega
        clear h3 e1 e2 hs
        go_wp2_with (first
            | (go_at_call 11; refine (cr _).mono ?_; rintro e w' ⟨rfl, rfl⟩)
            | (go_at_call 13; refine (cv _).mono ?_; rintro e w' ⟨rfl, rfl⟩))
        go_ret
        exact ⟨rfl, HB.out⟩
      · have e1 : rightN s = 3 := by simp [rightN, hs]; omega
        have e2 : valueN s = 4 := by simp [valueN, hs]; omega
        rw [e1] at cr
        rw [e2] at cv
        have b2 : decide ((k : Int) ≤ 16) = false := by simp; omega
        have b1 : decide ((1 : Int) ≤ (k : Int)) = true := by simp; omega
        clear h3 e1 e2 hs
        go_wp2_with (first
            | (go_at_call 11; refine (cr _).mono ?_; rintro e w' ⟨rfl, rfl⟩)
            | (go_at_call 13; refine (cv _).mono ?_; rintro e w' ⟨rfl, rfl⟩))
        go_ret
        exact ⟨rfl, HB.out⟩
end Go.Proofs.Ytjofdeiodgjopaa
