/-
  BagRoom, walked: a bag takes no more than there is room for; what was lost is lost; what comes out makes room.
-/
import Derived.Test.YtokgamagiffaeaaBagLawA
namespace Go.Proofs.Ytokgamagiffaeaa
open Go.RowKit

/-- packets numbered from 1 on -/
def rmPk (n : Nat) : List Pk := (List.range n).map fun i => ⟨0, 0, 0, (i + 1 : Nat)⟩
theorem rmPk_len (n : Nat) : (rmPk n).length = n := by simp [rmPk]
theorem rmPk_succ (j : Nat) (h : 1 ≤ j) : rmPk (j - 1) ++ [⟨0, 0, 0, (j : Nat)⟩] = rmPk j := by
  obtain ⟨i, rfl⟩ : ∃ i, j = i + 1 := ⟨j - 1, by omega⟩
  simp [rmPk, List.range_succ]
theorem nil_of {l : List Pk} (h : l.length = 0) : l = [] := List.eq_nil_of_length_eq_zero h

set_option maxRecDepth 20000 in
set_option maxHeartbeats 8000000 in
theorem bagRoomA (most n : Nat) (W : World) (hm : most ≤ 50) (hc : n = 0) :
    Calls Try.prog 3 #[.int .i64 (most : Nat), .int .i64 (n : Nat)] W fun e w' => e = .returned (.bool true) ∧ Below W.heap.size W w' := by
  have CA := Lib.hid aliveC
  have CN : Hid (∀ w, Below W.heap.size W w → Calls Try.prog 9 #[.int .i64 (most : Nat)] w fun e w' => e = .returned (.pointer (some ⟨w.heap.size, 0, none⟩)) ∧ BX W w' [] w.heap.size most [] ∧ Below w.heap.size w w') := fun w h => BX.new h (by simp) most (by omega)
  have CP : Hid (∀ w g (j : Nat), 1 ≤ j → j ≤ most → BX W w [] g most (rmPk (min (j - 1) most)) → Calls Try.prog 10 #[.pointer (some ⟨g, 0, none⟩), .agg (Pk.mk 0 0 0 (j : Nat)).cells] w fun e w' => e = .returned (.bool true) ∧ BX W w' [] g most (rmPk (min j most))) := fun w g j h1 h2 h => by
    rw [Nat.min_eq_left (by omega)] at h
    rw [Nat.min_eq_left h2]
    exact (h.put ⟨0, 0, 0, (j : Nat)⟩ (by rw [rmPk_len]; omega)).mono fun e w' ⟨h3, h4, _⟩ => ⟨h3, by rw [← rmPk_succ j h1]; exact h4⟩
  have CF : Hid (∀ w g (j : Nat), most < j → BX W w [] g most (rmPk (min (j - 1) most)) → Calls Try.prog 10 #[.pointer (some ⟨g, 0, none⟩), .agg (Pk.mk 0 0 0 (j : Nat)).cells] w fun e w' => e = .returned (.bool false) ∧ BX W w' [] g most (rmPk (min j most))) := fun w g j h1 h => by
    rw [Nat.min_eq_right (by omega)] at h
    rw [Nat.min_eq_right (by omega)]
    exact (h.putFull ⟨0, 0, 0, (j : Nat)⟩ (by rw [rmPk_len])).mono fun e w' ⟨h3, h4, _⟩ => ⟨h3, h4⟩
  obtain ⟨mn, hmn⟩ : ∃ mn, min n most = mn := ⟨_, rfl⟩
  have CL : Hid (∀ w g, BX W w [] g most (rmPk (min n most)) → Calls Try.prog 11 #[.pointer (some ⟨g, 0, none⟩)] w fun e w' => e = .returned (.int .i64 (mn : Nat)) ∧ w' = w) := fun w g h => h.len (by rw [rmPk_len, hmn])
  have CT : Hid (∀ w g, BX W w [] g most (rmPk (min n most)) → Calls Try.prog 12 #[.pointer (some ⟨g, 0, none⟩), .int .i64 0] w fun e w' => e = .returned (.bool false) ∧ ∃ l, BX W w' [] g most l) := fun w g h => by
    exact (h.twiceNot 0 (by rw [rmPk_len]; omega)).mono fun e w' ⟨h1, h2, _⟩ => ⟨h1, _, h2⟩
  have CM : Hid (∀ w g (l : List Pk) (k : Nat), l.length = k → BX W w [] g most l → Calls Try.prog 11 #[.pointer (some ⟨g, 0, none⟩)] w fun e w' => e = .returned (.int .i64 (k : Nat)) ∧ w' = w) := fun w g l k hk h => h.len hk
  have CK : Hid (∀ w g (l : List Pk) (k : Nat), 0 < k → l.length = k → BX W w [] g most l → ∃ p : Pk, Calls Try.prog 13 #[.pointer (some ⟨g, 0, none⟩), .int .i64 0] w fun e w' => e = .returned (.tuple #[.agg p.cells, .bool true]) ∧ ∃ l', l'.length = k - 1 ∧ BX W w' [] g most l') := fun w g l k h0 hk h => by
    obtain ⟨p, hp⟩ : ∃ p, l[0]? = some p := ⟨_, List.getElem?_eq_getElem (by omega)⟩
    exact ⟨p, (h.take 0 hp).mono fun e w' ⟨h1, h2, _⟩ => ⟨h1, _, by rw [without_length (by omega), hk], h2⟩⟩
  have CJ : Hid (∀ w g (l : List Pk) (k : Nat), l.length = k - 1 → 0 < k → BX W w [] g most l → Calls Try.prog 11 #[.pointer (some ⟨g, 0, none⟩)] w fun e w' => e = .returned (.int .i64 ((k : Int) - 1)) ∧ w' = w) := fun w g l k hk h0 h => by
    have e1 : (k : Int) - 1 = ((k - 1 : Nat) : Int) := by omega
    rw [e1]
    exact h.len hk
  have CD : Hid (∀ w g, BX W w [] g most [] → Calls Try.prog 14 #[.pointer (some ⟨g, 0, none⟩), .int .i64 0] w fun e w' => e = .returned (.bool false) ∧ BX W w' [] g most []) := fun w g h => (h.dropNot 0 (by simp)).mono fun e w' ⟨h1, h2, _⟩ => ⟨h1, h2⟩
  obtain ⟨bm, hbm⟩ : ∃ bm, decide (0 < most) = bm := ⟨_, rfl⟩
  have CZ : Hid (∀ w g, BX W w [] g most [] → Calls Try.prog 10 #[.pointer (some ⟨g, 0, none⟩), .agg Pk.zero.cells] w fun e w' => e = .returned (.bool bm) ∧ Below W.heap.size W w') := fun w g h => by
    rw [← hbm]
    rcases Nat.eq_zero_or_pos most with z | z
    · exact (h.putFull Pk.zero (by simpa using z.symm)).mono fun e w' ⟨h1, h2, _⟩ => ⟨by rw [h1, decide_eq_false (by omega)], h2.1⟩
    · exact (h.put Pk.zero (by simpa using z)).mono fun e w' ⟨h1, h2, _⟩ => ⟨by rw [h1, decide_eq_true z], h2.1⟩
  have hminI : min (n : Int) (most : Int) = (mn : Int) := by omega
  have hminJ : (if (most : Int) < (n : Int) then (most : Int) else (n : Int)) = (mn : Int) := by split <;> omega
  have hminK : (if most < n then (most : Int) else (n : Int)) = (mn : Int) := by split <;> omega
  have d0 : decide ((most : Int) < 0) = false := by simp
  have d1 : decide (50 < (most : Int)) = false := by simp; omega
  have d2 : decide ((n : Int) < 0) = false := by simp
  have d3 : decide (80 < (n : Int)) = false := by simp; omega
  have d5 : decide (0 < (n : Int)) = false := by simp; omega
  have d5' : decide (0 < n) = false := by simp; omega
  have HMN := Lib.hid hmn
  clear hmn
  go_enter Try.func3, Try.ntmps3
  go_wp2_with (first
    | (go_at_call 8; (with_reducible refine (CA.out _).mono ?_); rintro e w1 ⟨rfl, h1⟩; have H1 := Lib.hid h1; clear h1)
    | (go_at_call 9; (with_reducible refine (CN.out _ H1.out).mono ?_); rintro e w2 ⟨rfl, h2, _⟩; have H2 := Lib.hid h2; clear h2))
  obtain ⟨g, hg⟩ : ∃ g, w1.heap.size = g := ⟨_, rfl⟩
  rw [hg] at H2 ⊢
  clear hg H1
  go_loopg [6] (n + 1) (fun gh s6 wx => ∃ j : Nat, j + gh = n + 2 ∧ 1 ≤ j ∧ j ≤ n + 1 ∧ s6 = .int .i64 (j : Nat) ∧ Hid (BX W wx [] g most (rmPk (min (j - 1) most))))
  case atStart => exact ⟨1, by omega, by omega, by omega, rfl, by rw [Nat.sub_self, Nat.zero_min]; exact H2.out⟩
  case round =>
    obtain ⟨j, hjg, hj1, hj2, rfl, HX⟩ := hrel
    by_cases hlt : j ≤ n
    · exfalso; omega
    · obtain rfl : j = n + 1 := by omega
      have HX2 : Hid (BX W wr [] g most (rmPk (min n most))) := by have h := HX.out; rw [Nat.add_sub_cancel] at h; exact h
      clear CA CN CP CF HX H2
      go_upto_region 13 with (first
        | (go_at_call 11; (with_reducible refine (CL.out _ _ HX2.out).mono ?_); rintro e w5 ⟨rfl, rfl⟩)
        | (go_at_call 12; (with_reducible refine (CT.out _ _ HX2.out).mono ?_); rintro e w4 ⟨rfl, l, h4⟩; have H4 := Lib.hid h4; clear h4))
      obtain ⟨K, hK⟩ : ∃ K, l.length = K := ⟨_, rfl⟩
      have hK5 : K ≤ 50 := by have := H4.out.room; omega
      go_wp2_with (go_at_call 11; (with_reducible refine (CM.out _ _ _ _ hK H4.out).mono ?_); rintro e w5 ⟨rfl, rfl⟩)
      go_loopg [7] (K + 1) (fun gh s7 wx => ∃ (k : Nat) (l' : List Pk), gh = k + 1 ∧ k ≤ K ∧ s7 = .int .i64 (k : Nat) ∧ Hid (l'.length = k) ∧ Hid (BX W wx [] g most l'))
      case atStart => exact ⟨K, l, rfl, by omega, rfl, hK, H4.out⟩
      case round =>
        obtain ⟨k, l', hgk, hk, rfl, HLN, HB⟩ := hrel
        by_cases h0 : 0 < k
        · obtain ⟨p, hp⟩ := CK.out _ _ _ _ h0 HLN.out HB.out
          have HP := Lib.hid hp
          clear hp
          have hsz : (Try.prog.info? 38).map (·.size) = some p.cells.size := bg_infoP
          have hone := p.one
          have hold : Pk.zero.cells.size = p.cells.size := rfl
          have hz1 : IntKind.i64.wrap ((k : Int) - 1) = (k : Int) - 1 := by rw [IntKind.wrap_i64]; omega
          go_wp2_with (first
            | (go_at_call 13; (with_reducible refine (HP.out).mono ?_); rintro e w6 ⟨rfl, l2, hl2, h6⟩; have HL2 := Lib.hid hl2; have H6 := Lib.hid (h6.below (bg_new w6 Pk.zero.cells p.cells 38)); clear h6 hl2)
            | (with_reducible (show wpList _ _ _ (⟨none, Op.store _ (Operand.tmp 8) _, _, _, _, _⟩ :: _) _ _); go_must (refine wpList_store_row rfl 38 (.tmp 8) (.tmp 73) rfl w6.heap.size p.cells rfl rfl 38 Pk.zero.cells (heap_alloc_new w6 _) hsz hold hone ?_))
            | (go_at_call 11; (with_reducible refine (CJ.out _ _ _ _ HL2.out h0 H6.out).mono ?_); rintro e w7 ⟨rfl, hw7⟩))
          go_roundg k
          case measure => omega
          case rel => exact ⟨k - 1, l2, by omega, by omega, by rw [show ((k - 1 : Nat) : Int) = (k : Int) - 1 by omega], HL2, H6⟩
        · obtain rfl : k = 0 := by omega
          have HE : Hid (BX W wr [] g most []) := by rw [← nil_of HLN.out]; exact HB.out
          go_wp2_with (first
            | (go_at_call 14; (with_reducible refine (CD.out _ _ HE.out).mono ?_); rintro e w8 ⟨rfl, h8⟩; have H8 := Lib.hid h8; clear h8)
            | (go_at_call 10; (with_reducible refine (CZ.out _ _ H8.out).mono ?_); rintro e w9 ⟨rfl, h9⟩; have H9 := Lib.hid h9; clear h9))
          go_ret
          exact ⟨rfl, H9.out⟩

set_option maxRecDepth 20000 in
set_option maxHeartbeats 8000000 in
theorem bagRoomB (most n : Nat) (W : World) (hm : most ≤ 50) (hn : n ≤ 80) (hc : 0 < n) (hd : n < most) :
    Calls Try.prog 3 #[.int .i64 (most : Nat), .int .i64 (n : Nat)] W fun e w' => e = .returned (.bool true) ∧ Below W.heap.size W w' := by
  have CA := Lib.hid aliveC
  have CN : Hid (∀ w, Below W.heap.size W w → Calls Try.prog 9 #[.int .i64 (most : Nat)] w fun e w' => e = .returned (.pointer (some ⟨w.heap.size, 0, none⟩)) ∧ BX W w' [] w.heap.size most [] ∧ Below w.heap.size w w') := fun w h => BX.new h (by simp) most (by omega)
  have CP : Hid (∀ w g (j : Nat), 1 ≤ j → j ≤ most → BX W w [] g most (rmPk (min (j - 1) most)) → Calls Try.prog 10 #[.pointer (some ⟨g, 0, none⟩), .agg (Pk.mk 0 0 0 (j : Nat)).cells] w fun e w' => e = .returned (.bool true) ∧ BX W w' [] g most (rmPk (min j most))) := fun w g j h1 h2 h => by
    rw [Nat.min_eq_left (by omega)] at h
    rw [Nat.min_eq_left h2]
    exact (h.put ⟨0, 0, 0, (j : Nat)⟩ (by rw [rmPk_len]; omega)).mono fun e w' ⟨h3, h4, _⟩ => ⟨h3, by rw [← rmPk_succ j h1]; exact h4⟩
  have CF : Hid (∀ w g (j : Nat), most < j → BX W w [] g most (rmPk (min (j - 1) most)) → Calls Try.prog 10 #[.pointer (some ⟨g, 0, none⟩), .agg (Pk.mk 0 0 0 (j : Nat)).cells] w fun e w' => e = .returned (.bool false) ∧ BX W w' [] g most (rmPk (min j most))) := fun w g j h1 h => by
    rw [Nat.min_eq_right (by omega)] at h
    rw [Nat.min_eq_right (by omega)]
    exact (h.putFull ⟨0, 0, 0, (j : Nat)⟩ (by rw [rmPk_len])).mono fun e w' ⟨h3, h4, _⟩ => ⟨h3, h4⟩
  obtain ⟨mn, hmn⟩ : ∃ mn, min n most = mn := ⟨_, rfl⟩
  have CL : Hid (∀ w g, BX W w [] g most (rmPk (min n most)) → Calls Try.prog 11 #[.pointer (some ⟨g, 0, none⟩)] w fun e w' => e = .returned (.int .i64 (mn : Nat)) ∧ w' = w) := fun w g h => h.len (by rw [rmPk_len, hmn])
  have CT : Hid (∀ w g, BX W w [] g most (rmPk (min n most)) → Calls Try.prog 12 #[.pointer (some ⟨g, 0, none⟩), .int .i64 0] w fun e w' => e = .returned (.bool true) ∧ ∃ l, BX W w' [] g most l) := fun w g h => by
    obtain ⟨p, hp⟩ : ∃ p, (rmPk (min n most))[0]? = some p := ⟨_, List.getElem?_eq_getElem (by rw [rmPk_len]; omega)⟩
    exact (h.twice 0 hp (by rw [rmPk_len]; omega)).mono fun e w' ⟨h1, h2, _⟩ => ⟨h1, _, h2⟩
  have CM : Hid (∀ w g (l : List Pk) (k : Nat), l.length = k → BX W w [] g most l → Calls Try.prog 11 #[.pointer (some ⟨g, 0, none⟩)] w fun e w' => e = .returned (.int .i64 (k : Nat)) ∧ w' = w) := fun w g l k hk h => h.len hk
  have CK : Hid (∀ w g (l : List Pk) (k : Nat), 0 < k → l.length = k → BX W w [] g most l → ∃ p : Pk, Calls Try.prog 13 #[.pointer (some ⟨g, 0, none⟩), .int .i64 0] w fun e w' => e = .returned (.tuple #[.agg p.cells, .bool true]) ∧ ∃ l', l'.length = k - 1 ∧ BX W w' [] g most l') := fun w g l k h0 hk h => by
    obtain ⟨p, hp⟩ : ∃ p, l[0]? = some p := ⟨_, List.getElem?_eq_getElem (by omega)⟩
    exact ⟨p, (h.take 0 hp).mono fun e w' ⟨h1, h2, _⟩ => ⟨h1, _, by rw [without_length (by omega), hk], h2⟩⟩
  have CJ : Hid (∀ w g (l : List Pk) (k : Nat), l.length = k - 1 → 0 < k → BX W w [] g most l → Calls Try.prog 11 #[.pointer (some ⟨g, 0, none⟩)] w fun e w' => e = .returned (.int .i64 ((k : Int) - 1)) ∧ w' = w) := fun w g l k hk h0 h => by
    have e1 : (k : Int) - 1 = ((k - 1 : Nat) : Int) := by omega
    rw [e1]
    exact h.len hk
  have CD : Hid (∀ w g, BX W w [] g most [] → Calls Try.prog 14 #[.pointer (some ⟨g, 0, none⟩), .int .i64 0] w fun e w' => e = .returned (.bool false) ∧ BX W w' [] g most []) := fun w g h => (h.dropNot 0 (by simp)).mono fun e w' ⟨h1, h2, _⟩ => ⟨h1, h2⟩
  obtain ⟨bm, hbm⟩ : ∃ bm, decide (0 < most) = bm := ⟨_, rfl⟩
  have CZ : Hid (∀ w g, BX W w [] g most [] → Calls Try.prog 10 #[.pointer (some ⟨g, 0, none⟩), .agg Pk.zero.cells] w fun e w' => e = .returned (.bool bm) ∧ Below W.heap.size W w') := fun w g h => by
    rw [← hbm]
    rcases Nat.eq_zero_or_pos most with z | z
    · exact (h.putFull Pk.zero (by simpa using z.symm)).mono fun e w' ⟨h1, h2, _⟩ => ⟨by rw [h1, decide_eq_false (by omega)], h2.1⟩
    · exact (h.put Pk.zero (by simpa using z)).mono fun e w' ⟨h1, h2, _⟩ => ⟨by rw [h1, decide_eq_true z], h2.1⟩
  have hminI : min (n : Int) (most : Int) = (mn : Int) := by omega
  have hminJ : (if (most : Int) < (n : Int) then (most : Int) else (n : Int)) = (mn : Int) := by split <;> omega
  have hminK : (if most < n then (most : Int) else (n : Int)) = (mn : Int) := by split <;> omega
  have d0 : decide ((most : Int) < 0) = false := by simp
  have d1 : decide (50 < (most : Int)) = false := by simp; omega
  have d2 : decide ((n : Int) < 0) = false := by simp
  have d3 : decide (80 < (n : Int)) = false := by simp; omega
  have d5 : decide (0 < (n : Int)) = true := by simp; omega
  have d5' : decide (0 < n) = true := by simp; omega
  have d6 : decide (n < most) = true := by simp; omega
  have HMN := Lib.hid hmn
  clear hmn
  go_enter Try.func3, Try.ntmps3
  go_wp2_with (first
    | (go_at_call 8; (with_reducible refine (CA.out _).mono ?_); rintro e w1 ⟨rfl, h1⟩; have H1 := Lib.hid h1; clear h1)
    | (go_at_call 9; (with_reducible refine (CN.out _ H1.out).mono ?_); rintro e w2 ⟨rfl, h2, _⟩; have H2 := Lib.hid h2; clear h2))
  obtain ⟨g, hg⟩ : ∃ g, w1.heap.size = g := ⟨_, rfl⟩
  rw [hg] at H2 ⊢
  clear hg H1
  go_loopg [6] (n + 1) (fun gh s6 wx => ∃ j : Nat, j + gh = n + 2 ∧ 1 ≤ j ∧ j ≤ n + 1 ∧ s6 = .int .i64 (j : Nat) ∧ Hid (BX W wx [] g most (rmPk (min (j - 1) most))))
  case atStart => exact ⟨1, by omega, by omega, by omega, rfl, by rw [Nat.sub_self, Nat.zero_min]; exact H2.out⟩
  case round =>
    obtain ⟨j, hjg, hj1, hj2, rfl, HX⟩ := hrel
    by_cases hlt : j ≤ n
    · by_cases hle : j ≤ most
      · have cp := Lib.hid (CP.out wr g j hj1 hle HX.out)
        go_wp2_with (go_at_call 10; (with_reducible refine (cp.out).mono ?_); rintro e w3 ⟨rfl, h3⟩; have H3 := Lib.hid h3; clear h3)
        go_roundg (gk - 1)
        case measure => omega
        case rel => exact ⟨j + 1, by omega, by omega, by omega, by go_num, by rw [Nat.add_sub_cancel]; exact H3⟩
      · exfalso; omega
    · obtain rfl : j = n + 1 := by omega
      have HX2 : Hid (BX W wr [] g most (rmPk (min n most))) := by have h := HX.out; rw [Nat.add_sub_cancel] at h; exact h
      clear CA CN CP CF HX H2
      go_upto_region 13 with (first
        | (go_at_call 11; (with_reducible refine (CL.out _ _ HX2.out).mono ?_); rintro e w5 ⟨rfl, rfl⟩)
        | (go_at_call 12; (with_reducible refine (CT.out _ _ HX2.out).mono ?_); rintro e w4 ⟨rfl, l, h4⟩; have H4 := Lib.hid h4; clear h4))
      obtain ⟨K, hK⟩ : ∃ K, l.length = K := ⟨_, rfl⟩
      have hK5 : K ≤ 50 := by have := H4.out.room; omega
      go_wp2_with (go_at_call 11; (with_reducible refine (CM.out _ _ _ _ hK H4.out).mono ?_); rintro e w5 ⟨rfl, rfl⟩)
      go_loopg [7] (K + 1) (fun gh s7 wx => ∃ (k : Nat) (l' : List Pk), gh = k + 1 ∧ k ≤ K ∧ s7 = .int .i64 (k : Nat) ∧ Hid (l'.length = k) ∧ Hid (BX W wx [] g most l'))
      case atStart => exact ⟨K, l, rfl, by omega, rfl, hK, H4.out⟩
      case round =>
        obtain ⟨k, l', hgk, hk, rfl, HLN, HB⟩ := hrel
        by_cases h0 : 0 < k
        · obtain ⟨p, hp⟩ := CK.out _ _ _ _ h0 HLN.out HB.out
          have HP := Lib.hid hp
          clear hp
          have hsz : (Try.prog.info? 38).map (·.size) = some p.cells.size := bg_infoP
          have hone := p.one
          have hold : Pk.zero.cells.size = p.cells.size := rfl
          have hz1 : IntKind.i64.wrap ((k : Int) - 1) = (k : Int) - 1 := by rw [IntKind.wrap_i64]; omega
          go_wp2_with (first
            | (go_at_call 13; (with_reducible refine (HP.out).mono ?_); rintro e w6 ⟨rfl, l2, hl2, h6⟩; have HL2 := Lib.hid hl2; have H6 := Lib.hid (h6.below (bg_new w6 Pk.zero.cells p.cells 38)); clear h6 hl2)
            | (with_reducible (show wpList _ _ _ (⟨none, Op.store _ (Operand.tmp 8) _, _, _, _, _⟩ :: _) _ _); go_must (refine wpList_store_row rfl 38 (.tmp 8) (.tmp 73) rfl w6.heap.size p.cells rfl rfl 38 Pk.zero.cells (heap_alloc_new w6 _) hsz hold hone ?_))
            | (go_at_call 11; (with_reducible refine (CJ.out _ _ _ _ HL2.out h0 H6.out).mono ?_); rintro e w7 ⟨rfl, hw7⟩))
          go_roundg k
          case measure => omega
          case rel => exact ⟨k - 1, l2, by omega, by omega, by rw [show ((k - 1 : Nat) : Int) = (k : Int) - 1 by omega], HL2, H6⟩
        · obtain rfl : k = 0 := by omega
          have HE : Hid (BX W wr [] g most []) := by rw [← nil_of HLN.out]; exact HB.out
          go_wp2_with (first
            | (go_at_call 14; (with_reducible refine (CD.out _ _ HE.out).mono ?_); rintro e w8 ⟨rfl, h8⟩; have H8 := Lib.hid h8; clear h8)
            | (go_at_call 10; (with_reducible refine (CZ.out _ _ H8.out).mono ?_); rintro e w9 ⟨rfl, h9⟩; have H9 := Lib.hid h9; clear h9))
          go_ret
          exact ⟨rfl, H9.out⟩

set_option maxRecDepth 20000 in
set_option maxHeartbeats 8000000 in
theorem bagRoomC (most n : Nat) (W : World) (hm : most ≤ 50) (hn : n ≤ 80) (hc : 0 < n) (hd : most ≤ n) :
    Calls Try.prog 3 #[.int .i64 (most : Nat), .int .i64 (n : Nat)] W fun e w' => e = .returned (.bool true) ∧ Below W.heap.size W w' := by
  have CA := Lib.hid aliveC
  have CN : Hid (∀ w, Below W.heap.size W w → Calls Try.prog 9 #[.int .i64 (most : Nat)] w fun e w' => e = .returned (.pointer (some ⟨w.heap.size, 0, none⟩)) ∧ BX W w' [] w.heap.size most [] ∧ Below w.heap.size w w') := fun w h => BX.new h (by simp) most (by omega)
  have CP : Hid (∀ w g (j : Nat), 1 ≤ j → j ≤ most → BX W w [] g most (rmPk (min (j - 1) most)) → Calls Try.prog 10 #[.pointer (some ⟨g, 0, none⟩), .agg (Pk.mk 0 0 0 (j : Nat)).cells] w fun e w' => e = .returned (.bool true) ∧ BX W w' [] g most (rmPk (min j most))) := fun w g j h1 h2 h => by
    rw [Nat.min_eq_left (by omega)] at h
    rw [Nat.min_eq_left h2]
    exact (h.put ⟨0, 0, 0, (j : Nat)⟩ (by rw [rmPk_len]; omega)).mono fun e w' ⟨h3, h4, _⟩ => ⟨h3, by rw [← rmPk_succ j h1]; exact h4⟩
  have CF : Hid (∀ w g (j : Nat), most < j → BX W w [] g most (rmPk (min (j - 1) most)) → Calls Try.prog 10 #[.pointer (some ⟨g, 0, none⟩), .agg (Pk.mk 0 0 0 (j : Nat)).cells] w fun e w' => e = .returned (.bool false) ∧ BX W w' [] g most (rmPk (min j most))) := fun w g j h1 h => by
    rw [Nat.min_eq_right (by omega)] at h
    rw [Nat.min_eq_right (by omega)]
    exact (h.putFull ⟨0, 0, 0, (j : Nat)⟩ (by rw [rmPk_len])).mono fun e w' ⟨h3, h4, _⟩ => ⟨h3, h4⟩
  obtain ⟨mn, hmn⟩ : ∃ mn, min n most = mn := ⟨_, rfl⟩
  have CL : Hid (∀ w g, BX W w [] g most (rmPk (min n most)) → Calls Try.prog 11 #[.pointer (some ⟨g, 0, none⟩)] w fun e w' => e = .returned (.int .i64 (mn : Nat)) ∧ w' = w) := fun w g h => h.len (by rw [rmPk_len, hmn])
  have CT : Hid (∀ w g, BX W w [] g most (rmPk (min n most)) → Calls Try.prog 12 #[.pointer (some ⟨g, 0, none⟩), .int .i64 0] w fun e w' => e = .returned (.bool false) ∧ ∃ l, BX W w' [] g most l) := fun w g h => by
    rcases Nat.eq_zero_or_pos most with z | z
    · exact (h.twiceNot 0 (by rw [rmPk_len]; omega)).mono fun e w' ⟨h1, h2, _⟩ => ⟨h1, _, h2⟩
    · obtain ⟨p, hp⟩ : ∃ p, (rmPk (min n most))[0]? = some p := ⟨_, List.getElem?_eq_getElem (by rw [rmPk_len]; omega)⟩
      exact (h.twiceFull 0 hp (by rw [rmPk_len]; omega)).mono fun e w' ⟨h1, h2, _⟩ => ⟨h1, _, h2⟩
  have CM : Hid (∀ w g (l : List Pk) (k : Nat), l.length = k → BX W w [] g most l → Calls Try.prog 11 #[.pointer (some ⟨g, 0, none⟩)] w fun e w' => e = .returned (.int .i64 (k : Nat)) ∧ w' = w) := fun w g l k hk h => h.len hk
  have CK : Hid (∀ w g (l : List Pk) (k : Nat), 0 < k → l.length = k → BX W w [] g most l → ∃ p : Pk, Calls Try.prog 13 #[.pointer (some ⟨g, 0, none⟩), .int .i64 0] w fun e w' => e = .returned (.tuple #[.agg p.cells, .bool true]) ∧ ∃ l', l'.length = k - 1 ∧ BX W w' [] g most l') := fun w g l k h0 hk h => by
    obtain ⟨p, hp⟩ : ∃ p, l[0]? = some p := ⟨_, List.getElem?_eq_getElem (by omega)⟩
    exact ⟨p, (h.take 0 hp).mono fun e w' ⟨h1, h2, _⟩ => ⟨h1, _, by rw [without_length (by omega), hk], h2⟩⟩
  have CJ : Hid (∀ w g (l : List Pk) (k : Nat), l.length = k - 1 → 0 < k → BX W w [] g most l → Calls Try.prog 11 #[.pointer (some ⟨g, 0, none⟩)] w fun e w' => e = .returned (.int .i64 ((k : Int) - 1)) ∧ w' = w) := fun w g l k hk h0 h => by
    have e1 : (k : Int) - 1 = ((k - 1 : Nat) : Int) := by omega
    rw [e1]
    exact h.len hk
  have CD : Hid (∀ w g, BX W w [] g most [] → Calls Try.prog 14 #[.pointer (some ⟨g, 0, none⟩), .int .i64 0] w fun e w' => e = .returned (.bool false) ∧ BX W w' [] g most []) := fun w g h => (h.dropNot 0 (by simp)).mono fun e w' ⟨h1, h2, _⟩ => ⟨h1, h2⟩
  obtain ⟨bm, hbm⟩ : ∃ bm, decide (0 < most) = bm := ⟨_, rfl⟩
  have CZ : Hid (∀ w g, BX W w [] g most [] → Calls Try.prog 10 #[.pointer (some ⟨g, 0, none⟩), .agg Pk.zero.cells] w fun e w' => e = .returned (.bool bm) ∧ Below W.heap.size W w') := fun w g h => by
    rw [← hbm]
    rcases Nat.eq_zero_or_pos most with z | z
    · exact (h.putFull Pk.zero (by simpa using z.symm)).mono fun e w' ⟨h1, h2, _⟩ => ⟨by rw [h1, decide_eq_false (by omega)], h2.1⟩
    · exact (h.put Pk.zero (by simpa using z)).mono fun e w' ⟨h1, h2, _⟩ => ⟨by rw [h1, decide_eq_true z], h2.1⟩
  have hminI : min (n : Int) (most : Int) = (mn : Int) := by omega
  have hminJ : (if (most : Int) < (n : Int) then (most : Int) else (n : Int)) = (mn : Int) := by split <;> omega
  have hminK : (if most < n then (most : Int) else (n : Int)) = (mn : Int) := by split <;> omega
  have d0 : decide ((most : Int) < 0) = false := by simp
  have d1 : decide (50 < (most : Int)) = false := by simp; omega
  have d2 : decide ((n : Int) < 0) = false := by simp
  have d3 : decide (80 < (n : Int)) = false := by simp; omega
  have d5 : decide (0 < (n : Int)) = true := by simp; omega
  have d5' : decide (0 < n) = true := by simp; omega
  have d6 : decide (n < most) = false := by simp; omega
  have HMN := Lib.hid hmn
  clear hmn
  go_enter Try.func3, Try.ntmps3
  go_wp2_with (first
    | (go_at_call 8; (with_reducible refine (CA.out _).mono ?_); rintro e w1 ⟨rfl, h1⟩; have H1 := Lib.hid h1; clear h1)
    | (go_at_call 9; (with_reducible refine (CN.out _ H1.out).mono ?_); rintro e w2 ⟨rfl, h2, _⟩; have H2 := Lib.hid h2; clear h2))
  obtain ⟨g, hg⟩ : ∃ g, w1.heap.size = g := ⟨_, rfl⟩
  rw [hg] at H2 ⊢
  clear hg H1
  go_loopg [6] (n + 1) (fun gh s6 wx => ∃ j : Nat, j + gh = n + 2 ∧ 1 ≤ j ∧ j ≤ n + 1 ∧ s6 = .int .i64 (j : Nat) ∧ Hid (BX W wx [] g most (rmPk (min (j - 1) most))))
  case atStart => exact ⟨1, by omega, by omega, by omega, rfl, by rw [Nat.sub_self, Nat.zero_min]; exact H2.out⟩
  case round =>
    obtain ⟨j, hjg, hj1, hj2, rfl, HX⟩ := hrel
    by_cases hlt : j ≤ n
    · by_cases hle : j ≤ most
      · have cp := Lib.hid (CP.out wr g j hj1 hle HX.out)
        go_wp2_with (go_at_call 10; (with_reducible refine (cp.out).mono ?_); rintro e w3 ⟨rfl, h3⟩; have H3 := Lib.hid h3; clear h3)
        go_roundg (gk - 1)
        case measure => omega
        case rel => exact ⟨j + 1, by omega, by omega, by omega, by go_num, by rw [Nat.add_sub_cancel]; exact H3⟩
      · have cp := Lib.hid (CF.out wr g j (by omega) HX.out)
        go_wp2_with (go_at_call 10; (with_reducible refine (cp.out).mono ?_); rintro e w3 ⟨rfl, h3⟩; have H3 := Lib.hid h3; clear h3)
        go_roundg (gk - 1)
        case measure => omega
        case rel => exact ⟨j + 1, by omega, by omega, by omega, by go_num, by rw [Nat.add_sub_cancel]; exact H3⟩
    · obtain rfl : j = n + 1 := by omega
      have HX2 : Hid (BX W wr [] g most (rmPk (min n most))) := by have h := HX.out; rw [Nat.add_sub_cancel] at h; exact h
      clear CA CN CP CF HX H2
      go_upto_region 13 with (first
        | (go_at_call 11; (with_reducible refine (CL.out _ _ HX2.out).mono ?_); rintro e w5 ⟨rfl, rfl⟩)
        | (go_at_call 12; (with_reducible refine (CT.out _ _ HX2.out).mono ?_); rintro e w4 ⟨rfl, l, h4⟩; have H4 := Lib.hid h4; clear h4))
      obtain ⟨K, hK⟩ : ∃ K, l.length = K := ⟨_, rfl⟩
      have hK5 : K ≤ 50 := by have := H4.out.room; omega
      go_wp2_with (go_at_call 11; (with_reducible refine (CM.out _ _ _ _ hK H4.out).mono ?_); rintro e w5 ⟨rfl, rfl⟩)
      go_loopg [7] (K + 1) (fun gh s7 wx => ∃ (k : Nat) (l' : List Pk), gh = k + 1 ∧ k ≤ K ∧ s7 = .int .i64 (k : Nat) ∧ Hid (l'.length = k) ∧ Hid (BX W wx [] g most l'))
      case atStart => exact ⟨K, l, rfl, by omega, rfl, hK, H4.out⟩
      case round =>
        obtain ⟨k, l', hgk, hk, rfl, HLN, HB⟩ := hrel
        by_cases h0 : 0 < k
        · obtain ⟨p, hp⟩ := CK.out _ _ _ _ h0 HLN.out HB.out
          have HP := Lib.hid hp
          clear hp
          have hsz : (Try.prog.info? 38).map (·.size) = some p.cells.size := bg_infoP
          have hone := p.one
          have hold : Pk.zero.cells.size = p.cells.size := rfl
          have hz1 : IntKind.i64.wrap ((k : Int) - 1) = (k : Int) - 1 := by rw [IntKind.wrap_i64]; omega
          go_wp2_with (first
            | (go_at_call 13; (with_reducible refine (HP.out).mono ?_); rintro e w6 ⟨rfl, l2, hl2, h6⟩; have HL2 := Lib.hid hl2; have H6 := Lib.hid (h6.below (bg_new w6 Pk.zero.cells p.cells 38)); clear h6 hl2)
            | (with_reducible (show wpList _ _ _ (⟨none, Op.store _ (Operand.tmp 8) _, _, _, _, _⟩ :: _) _ _); go_must (refine wpList_store_row rfl 38 (.tmp 8) (.tmp 73) rfl w6.heap.size p.cells rfl rfl 38 Pk.zero.cells (heap_alloc_new w6 _) hsz hold hone ?_))
            | (go_at_call 11; (with_reducible refine (CJ.out _ _ _ _ HL2.out h0 H6.out).mono ?_); rintro e w7 ⟨rfl, hw7⟩))
          go_roundg k
          case measure => omega
          case rel => exact ⟨k - 1, l2, by omega, by omega, by rw [show ((k - 1 : Nat) : Int) = (k : Int) - 1 by omega], HL2, H6⟩
        · obtain rfl : k = 0 := by omega
          have HE : Hid (BX W wr [] g most []) := by rw [← nil_of HLN.out]; exact HB.out
          go_wp2_with (first
            | (go_at_call 14; (with_reducible refine (CD.out _ _ HE.out).mono ?_); rintro e w8 ⟨rfl, h8⟩; have H8 := Lib.hid h8; clear h8)
            | (go_at_call 10; (with_reducible refine (CZ.out _ _ H8.out).mono ?_); rintro e w9 ⟨rfl, h9⟩; have H9 := Lib.hid h9; clear h9))
          go_ret
          exact ⟨rfl, H9.out⟩
theorem bagRoom_any (most n : Int) (W : World) (k0 : -9223372036854775808 ≤ most) (k1 : most ≤ 9223372036854775807) (n0 : -9223372036854775808 ≤ n) (n1 : n ≤ 9223372036854775807) :
    Calls Try.prog 3 #[.int .i64 most, .int .i64 n] W fun e w' => e = .returned (.bool true) ∧ Below W.heap.size W w' := by
  by_cases bad : most < 0 ∨ 50 < most ∨ n < 0 ∨ 80 < n
  · have CA := Lib.hid aliveC
    by_cases c0 : most < 0
    · have d0 : decide (most < 0) = true := by simp; omega
      go_enter Try.func3, Try.ntmps3
      go_wp2_with (go_at_call 8; (with_reducible refine (CA.out _).mono ?_); rintro e w1 ⟨rfl, h1⟩)
      go_ret
      exact ⟨rfl, h1⟩
    have d0 : decide (most < 0) = false := by simp; omega
    by_cases c1 : 50 < most
    · have d1 : decide (50 < most) = true := by simp; omega
      go_enter Try.func3, Try.ntmps3
      go_wp2_with (go_at_call 8; (with_reducible refine (CA.out _).mono ?_); rintro e w1 ⟨rfl, h1⟩)
      go_ret
      exact ⟨rfl, h1⟩
    have d1 : decide (50 < most) = false := by simp; omega
    by_cases c2 : n < 0
    · have d2 : decide (n < 0) = true := by simp; omega
      go_enter Try.func3, Try.ntmps3
      go_wp2_with (go_at_call 8; (with_reducible refine (CA.out _).mono ?_); rintro e w1 ⟨rfl, h1⟩)
      go_ret
      exact ⟨rfl, h1⟩
    have d2 : decide (n < 0) = false := by simp; omega
    have d3 : decide (80 < n) = true := by simp; omega
    go_enter Try.func3, Try.ntmps3
    go_wp2_with (go_at_call 8; (with_reducible refine (CA.out _).mono ?_); rintro e w1 ⟨rfl, h1⟩)
    go_ret
    exact ⟨rfl, h1⟩
  · obtain ⟨a, rfl⟩ := Int.eq_ofNat_of_zero_le (show 0 ≤ most by omega)
    obtain ⟨b, rfl⟩ := Int.eq_ofNat_of_zero_le (show 0 ≤ n by omega)
    rcases Nat.eq_zero_or_pos b with z | z
    · exact bagRoomA a b W (by omega) z
    · rcases Nat.lt_or_ge b a with y | y
      · exact bagRoomB a b W (by omega) (by omega) z y
      · exact bagRoomC a b W (by omega) (by omega) z y
end Go.Proofs.Ytokgamagiffaeaa
