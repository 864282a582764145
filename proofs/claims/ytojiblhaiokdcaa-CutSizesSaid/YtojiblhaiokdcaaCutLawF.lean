/-
  CutSizes: chunks are as few as can be: all full but the last one. (Written by tools/genCSizes.py.)
-/
import Derived.Test.YtojiblhaiokdcaaCutBegin
namespace Go.Proofs.Ytojiblhaiokdcaa
open Go.RowKit

/-- so many items of keys of one letter -/
def oneL (n : Nat) : List Item := (List.range n).map fun i => (txt [UInt8.ofNat i], ⟨#[]⟩)
theorem oneL_length (n : Nat) : (oneL n).length = n := by simp [oneL]
theorem oneL_succ (n : Nat) : oneL (n + 1) = oneL n ++ [(txt [UInt8.ofNat n], ⟨#[]⟩)] := by
  simp [oneL, List.range_succ]
theorem one_cell {i : Nat} (hi : i < 256) : #[Value.int .u8 (i : Int)] = ([UInt8.ofNat i].map cell8).toArray := by
  simp [cell8]; omega
/-- the list, its chunks -/
structure CZ (W w : World) (L : List Item) (n K : Nat) (A : Option Addr) (c : Nat) (B : Option Addr) (d : Nat) (vs : List Value) : Prop where
  b : Below W.heap.size W w
  l : w.ownsRow 0 39 2 (.slice A n c) n (itemCells L)
  v : w.ownsRow 0 22 1 (.slice B K d) K vs
  p : Pieces w 0 L vs
theorem CZ.below {W w w1 : World} {L : List Item} {n K : Nat} {A : Option Addr} {c : Nat} {B : Option Addr} {d : Nat} {vs : List Value} (h : CZ W w L n K A c B d vs) (hb : Below w.heap.size w w1) : CZ W w1 L n K A c B d vs :=
  ⟨acc h.b hb, own_keep h.l hb, own_keep h.v hb, h.p.touch (Touch.ofBelow (F := []) hb) (by simp)⟩
theorem piece_get {L : List Item} {j i : Nat} (hi : i < (piece L j).length) : ∃ h : j * 4 + i < L.length, (piece L j)[i] = L[j * 4 + i] := by
  rw [piece_length] at hi
  have h : j * 4 + i < L.length := by omega
  refine ⟨h, ?_⟩
  simp only [piece, List.getElem_take, List.getElem_drop]
set_option maxRecDepth 100000 in
set_option maxHeartbeats 8000000 in
theorem cutSizesGo (n : Nat) (W : World) (hn : n ≤ 200) :
    Calls Try.prog 8 #[.int .i64 (n : Nat)] W fun e w' => e = .returned (.bool true) ∧ Below W.heap.size W w' := by
  have CA : Hid (∀ w, Calls Try.prog 9 #[] w fun e w' => e = .returned (.bool true) ∧ Below w.heap.size w w') := fun w => cutAlive_any w w (Below.refl _ _)
  obtain ⟨i0, hi0, hz0, hs0, hb0⟩ := infoItems
  have CC : Hid (∀ w A c, Below W.heap.size W w → w.ownsRow 0 39 2 (.slice A n c) n (itemCells (oneL n)) → Calls Try.prog 25 #[.slice A n c] w fun e w' => ∃ B d vs, e = .returned (.slice B ((n + 3) / 4 : Nat) d) ∧ CZ W w' (oneL n) n ((n + 3) / 4) A c B d vs) := fun w A c hb hr => by
    have hr' : w.ownsRow 0 39 2 (.slice A (oneL n).length c) (oneL n).length (itemCells (oneL n)) := by rw [oneL_length]; exact hr
    obtain ⟨q1, q2⟩ := itemsAt_of hr'
    have z := chunks_any A c (oneL n) w (by rw [oneL_length]; omega) q2 q1
    rw [oneL_length] at z
    refine z.mono ?_
    rintro e w' ⟨B, d, vs, rfl, z1, z2, z3, _, z4⟩
    rw [oneL_length] at z1 z2 ⊢
    exact ⟨B, d, vs, rfl, acc hb z4, own_keep hr z4, own_mono z2 (Nat.zero_le _), fun i v hv => by
      obtain ⟨A', c', y1, y2⟩ := z3 i v hv
      exact ⟨A', c', y1, own_mono y2 (Nat.zero_le _)⟩⟩
  have d0 : decide ((n : Int) < 0) = false := by simp
  have d1 : decide ((200 : Int) < (n : Int)) = false := by simp; omega
  go_enter Try.func8, Try.ntmps8
  go_upto_region 5 with (go_at_call 9; (with_reducible refine (CA.out _).mono ?_); rintro e w1 ⟨rfl, h1⟩; have B1 := Lib.hid h1; clear h1)
  go_wp2_with fail
  go_loopg [3, 4] (n + 1) (fun gh s3 s4 wx => ∃ (i : Nat) (A : Option Addr) (c : Nat), i + gh = n + 1 ∧ i ≤ n ∧ s3 = .slice A i c ∧ s4 = .int .i64 (i : Nat) ∧ Hid (wx.ownsRow w1.heap.size 39 2 (.slice A i c) i (itemCells (oneL i))) ∧ Hid (Below w1.heap.size w1 wx))
  case atStart => exact ⟨0, none, 0, by omega, by omega, rfl, rfl, World.ownsRow_nil _ _ _ _, Below.refl _ _⟩
  case round =>
    obtain ⟨i, A, c, hig, hi, rfl, rfl, HR, HB⟩ := hrel
    by_cases hlt : i < n
    · have t0 : decide ((i : Int) < (n : Int)) = true := by simp; omega
      have hcv := conv_lit [UInt8.ofNat i] wr 1 rfl (by simp) _ (one_cell (show i < 256 by omega))
      have HSZ : Hid (w1.heap.size ≤ wr.heap.size) := HB.out.size
      go_wp2_with (at_builtin; go_loud ((refine wpList_append_any rfl (.tmp 27) (.tmp 33) 22 rfl w1.heap.size 39 i0 (.agg #[.string ⟨#[]⟩, .string ⟨#[]⟩]) 2 32 Try.underlying22 hi0 hz0 hs0 hb0 rfl (by decide) (.slice A i c) i (itemCells (oneL i)) rfl ((HR.out.alloc _).alloc _) (.slice (some ⟨wr.heap.size + 1, 0, none⟩) 1 1) 1 (itemCells [(txt [UInt8.ofNat i], ⟨#[]⟩)]) rfl (item_src _ _ _ _ (by have z := heap_alloc_new (wr.alloc (.cells #[.int .u8 (i : Int)] 5)) (.cells #[.string (txt [UInt8.ofNat i]), .string ⟨#[]⟩] 39); rw [World.size_alloc] at z; exact z)) (items_one _) (by unfold maxLen; omega) (by omega) (by have := HSZ.out; simp; omega) ?_); intro A3 c3 w3 ho3 hg3 hs3; have HR3 := Lib.hid ho3; have HB3 : Hid (Below w1.heap.size w1 w3) := ((HB.out.alloc HSZ.out _).alloc (by have := HSZ.out; simp; omega) _).grown hg3 (by have := HSZ.out; simp; omega) (fun q hq => (HR.out.lt q hq).1); clear ho3 hg3 hs3))
      go_roundg (gk - 1)
      case measure => omega
      case rel => exact ⟨i + 1, A3, c3, by omega, by omega, rfl, by go_num, by rw [oneL_succ, itemCells_append]; exact HR3.out, HB3.out⟩
    · obtain rfl : n = i := by omega
      have t0 : decide ((n : Int) < (n : Int)) = false := by simp
      have t1 : ((((n + 3) / 4 : Nat) : Int) == ((n : Int) + 4 - 1) / 4) = true := by rw [beq_iff_eq]; omega
      have HBW : Hid (Below W.heap.size W wr) := acc B1.out HB.out
      clear HB
      go_upto_region 11 with (go_at_call 25; (with_reducible refine (CC.out _ _ _ HBW.out (own_mono HR.out (Nat.zero_le _))).mono ?_); rintro e w4 ⟨B, d, vs, rfl, h4⟩; have H4 := Lib.hid h4; clear h4)
      obtain ⟨K, hK⟩ : ∃ K, (n + 3) / 4 = K := ⟨_, rfl⟩
      rw [hK] at H4 ⊢
      have hvs : vs.length = K := by have := H4.out.v.1; omega
      have HVS := Lib.hid hvs
      have HKE := Lib.hid hK
      have hK4 : K ≤ 60 := by omega
      clear hvs hK t0 t1 HR HBW
      go_wp2_with fail
      go_loopg [6, 46] (K + 1) (fun gh s6 s46 wx => ∃ j : Nat, j + gh = K + 1 ∧ j ≤ K ∧ s6 = .int .i64 (min (j * 4) n : Nat) ∧ s46 = .int .i64 (j : Nat) ∧ Hid (CZ W wx (oneL n) n K A c B d vs))
      case atStart => exact ⟨0, by omega, by omega, by simp, rfl, H4.out⟩
      case round =>
        obtain ⟨j, hjg, hj, rfl, rfl, HZ⟩ := hrel
        obtain ⟨go, hgo⟩ : ∃ go : Nat, go = gk := ⟨_, rfl⟩
        have hgo' : j + go = K + 1 := by omega
        by_cases hjK : j < K
        · have hj4 : j * 4 < n := by have := HKE.out; omega
          obtain ⟨qv, rfl⟩ := own_at HZ.out.v (by omega)
          have hvj : vs[j]? = some (vs[j]'(by rw [HVS.out]; exact hjK)) := List.getElem?_eq_getElem _
          obtain ⟨v, hv⟩ : ∃ v, vs[j]'(by rw [HVS.out]; exact hjK) = v := ⟨_, rfl⟩
          rw [hv] at hvj
          have cv0 := (HZ.out.v.cellAt j (by omega)).trans hvj
          obtain ⟨Aj, cj, rfl, rj⟩ := HZ.out.p j v hvj
          obtain ⟨mj, hmj⟩ : ∃ m, (piece (oneL n) j).length = m := ⟨_, rfl⟩
          rw [hmj] at rj cv0
          have hmj1 : mj = min 4 (n - j * 4) := by rw [← hmj, piece_length, oneL_length]
          have HMJ := Lib.hid hmj
          have HVJ := Lib.hid hvj
          obtain ⟨qj, rfl⟩ := own_at rj (by omega)
          obtain ⟨ql, rfl⟩ := own_at HZ.out.l (by omega)
          have hat : min (j * 4) n = j * 4 := by omega
          rw [hat]
          clear rj hvj hv hmj hat
          go_wp2_with fail
          go_loopg [6, 52] (mj + 1) (fun gh s6 s52 wx => ∃ i : Nat, i + gh = mj + 1 ∧ i ≤ mj ∧ s6 = .int .i64 (j * 4 + i : Nat) ∧ s52 = .int .i64 (i : Nat) ∧ Hid (CZ W wx (oneL n) n K (some ⟨ql, 0, none⟩) c (some ⟨qv, 0, none⟩) d vs))
          case atStart => exact ⟨0, by omega, by omega, rfl, rfl, HZ.out⟩
          case round =>
            obtain ⟨i, hig, hi2, rfl, rfl, HZ2⟩ := hrel
            by_cases him : i < mj
            · have hlt2 : j * 4 + i < n := by omega
              obtain ⟨A', c', e1, rj⟩ := HZ2.out.p j _ HVJ.out
              rw [HMJ.out] at rj
              obtain ⟨z1, z2⟩ := piece_get (L := oneL n) (j := j) (i := i) (by rw [HMJ.out]; exact him)
              have pk := (rj.cellAt (i * 2) (by omega)).trans (itemCells_get0 _ i (by rw [HMJ.out]; exact him))
              have pv := (rj.cellAt (i * 2 + 1) (by omega)).trans (itemCells_get1 _ i (by rw [HMJ.out]; exact him))
              have lk := (HZ2.out.l.cellAt ((j * 4 + i) * 2) (by omega)).trans (itemCells_get0 _ (j * 4 + i) z1)
              have lv := (HZ2.out.l.cellAt ((j * 4 + i) * 2 + 1) (by omega)).trans (itemCells_get1 _ (j * 4 + i) z1)
              rw [z2] at pk pv
              obtain ⟨x, hx⟩ : ∃ x, (oneL n)[j * 4 + i] = x := ⟨_, rfl⟩
              rw [hx] at pk pv lk lv
              obtain ⟨xk, xv⟩ := x
              dsimp only at pk pv lk lv
              have g1 : decide ((n : Int) ≤ (j : Int) * 4 + (i : Int)) = false := by simp; omega
              clear e1 rj z1 z2 hx
              go_upto_region 18 with fail
              have hbd : Below wr.heap.size wr (wr.alloc (.cells #[.string xk, .string xv] 39)).drew := ((Below.refl _ _).alloc (Nat.le_refl _) _).drew
              have lk2 := (hbd.cell (p := ⟨ql, (j * 4 + i) * 2, none⟩) (World.block_lt_of_cell? wr _ lk)).trans lk
              have lv2 := (hbd.cell (p := ⟨ql, (j * 4 + i) * 2 + 1, none⟩) (World.block_lt_of_cell? wr _ lv)).trans lv
              have HZ3 := Lib.hid (HZ2.out.below hbd)
              clear hbd
              go_region
              go_wp2_with fail
              go_roundg (gk - 1)
              case measure => omega
              case rel => exact ⟨i + 1, by omega, by omega, by go_num, by go_num, HZ3⟩
            · obtain rfl : mj = i := by omega
              go_wp2_with fail
              go_roundg (go - 1)
              case measure => omega
              case rel => exact ⟨j + 1, by omega, by omega, by congr 1; omega, by go_num, HZ2⟩
        · obtain rfl : K = j := by omega
          have hat : min (K * 4) n = n := by have := HKE.out; omega
          rw [hat]
          go_wp2_with fail
          go_ret
          exact ⟨rfl, HZ.out.b⟩
set_option maxRecDepth 100000 in
set_option maxHeartbeats 8000000 in
theorem cutSizes_any (n : Int) (W : World) (m0 : -9223372036854775808 ≤ n) (m1 : n ≤ 9223372036854775807) :
    Calls Try.prog 8 #[.int .i64 n] W fun e w' => e = .returned (.bool true) ∧ Below W.heap.size W w' := by
  by_cases bad : n < 0 ∨ 200 < n
  · have CA : Hid (∀ w, Calls Try.prog 9 #[] w fun e w' => e = .returned (.bool true) ∧ Below w.heap.size w w') := fun w => cutAlive_any w w (Below.refl _ _)
    by_cases c0 : n < 0
    · have d0 : decide (n < 0) = true := by simp; omega
      go_enter Try.func8, Try.ntmps8
      go_wp2_with (go_at_call 9; (with_reducible refine (CA.out _).mono ?_); rintro e w1 ⟨rfl, h1⟩)
      go_ret
      exact ⟨rfl, h1⟩
    have d0 : decide (n < 0) = false := by simp; omega
    by_cases c1 : 200 < n
    · have d1 : decide (200 < n) = true := by simp; omega
      go_enter Try.func8, Try.ntmps8
      go_wp2_with (go_at_call 9; (with_reducible refine (CA.out _).mono ?_); rintro e w1 ⟨rfl, h1⟩)
      go_ret
      exact ⟨rfl, h1⟩
    have d1 : decide (200 < n) = false := by simp; omega
    exfalso
    omega
  · obtain ⟨k, rfl⟩ := Int.eq_ofNat_of_zero_le (show 0 ≤ n by omega)
    exact cutSizesGo k W (by omega)
end Go.Proofs.Ytojiblhaiokdcaa
