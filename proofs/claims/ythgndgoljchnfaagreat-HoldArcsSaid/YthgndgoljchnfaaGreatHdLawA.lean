/-
  Arcs that were won side by side, of one epoch, are one; of whatever epochs they are one piece (HoldArcs). (Written by tools/genHA.py.)
-/
import Derived.Test.YthgndgoljchnfaaGreatHdAlive
import Derived.Test.YthgndgoljchnfaaGreatHdLine
import Derived.Test.YthgndgoljchnfaaGreatLists
import Derived.Deep.RegionHeld3
namespace Go.Proofs.YthgndgoljchnfaaGreat
open Go.RowKit

theorem hdAnd3 (x : Int) : 0 ≤ bits .and .i64 x 3 ∧ bits .and .i64 x 3 ≤ 3 := by
  have h3 : (BitVec.ofInt 64 3).toNat = 3 := by decide
  have hle : (BitVec.ofInt 64 x &&& BitVec.ofInt 64 3).toNat ≤ 3 := by
    rw [BitVec.toNat_and, h3]
    exact Nat.and_le_right
  have e : bits .and .i64 x 3 = ((BitVec.ofInt 64 x &&& BitVec.ofInt 64 3).toNat : Int) := by
    show IntKind.i64.wrap _ = _
    rw [IntKind.wrap_i64]
    have : ((BitVec.ofInt IntKind.i64.bits x &&& BitVec.ofInt IntKind.i64.bits 3).toNat : Int) = ((BitVec.ofInt 64 x &&& BitVec.ofInt 64 3).toNat : Int) := rfl
    rw [this]
    omega
  rw [e]
  omega
theorem cnt_le (e : Nat → Int) : ∀ j, cnt e j ≤ j
  | 0 => Nat.le_refl _
  | 1 => Nat.le_refl _
  | j + 2 => by
    have := cnt_le e (j + 1)
    rw [cnt]
    split <;> omega
section
variable {VD : World → Nat → HO → List Nat → Prop}
set_option maxRecDepth 20000 in
set_option maxHeartbeats 8000000 in
theorem holdArcs_any (L : HoldLaws VD) (A0 : Option Addr) (c0 n : Nat) (zs : List Int) (A1 : Option Addr) (c1 m : Nat) (es : List Int) (W : World) (hA : IntsAt W A0 .u64 zs) (hn : zs.length = n) (hzr : ∀ x ∈ zs, 0 ≤ x ∧ x < 18446744073709551616)
    (hB : IntsAt W A1 .i64 es) (hm : es.length = m) :
    Calls Tryz.prog 7 #[.slice A0 n c0, .slice A1 m c1] W fun e w' => e = .returned (.bool true) ∧ Below W.heap.size W w' := by
  have CA := Lib.hid (holdAlive_any L)
  by_cases q0 : n < 2
  · have d0 : decide ((n : Int) < 2) = true := by simp; omega
    go_enter Tryz.func7, Tryz.ntmps7
    go_wp2_with (go_at_call 11; (with_reducible refine (CA.out _).mono ?_); rintro e w1 ⟨rfl, h1⟩)
    go_ret
    exact ⟨rfl, h1⟩
  have d0 : decide ((n : Int) < 2) = false := by simp; omega
  by_cases q1 : 12 < n
  · have d1 : decide (12 < (n : Int)) = true := by simp; omega
    go_enter Tryz.func7, Tryz.ntmps7
    go_wp2_with (go_at_call 11; (with_reducible refine (CA.out _).mono ?_); rintro e w1 ⟨rfl, h1⟩)
    go_ret
    exact ⟨rfl, h1⟩
  have d1 : decide (12 < (n : Int)) = false := by simp; omega
  by_cases q2 : m = 0
  · have d2 : ((m : Int) == 0) = true := by simp; omega
    go_enter Tryz.func7, Tryz.ntmps7
    go_wp2_with (go_at_call 11; (with_reducible refine (CA.out _).mono ?_); rintro e w1 ⟨rfl, h1⟩)
    go_ret
    exact ⟨rfl, h1⟩
  have d2 : ((m : Int) == 0) = false := by simp; omega
  by_cases q3 : 12 < m
  · have d3 : decide (12 < (m : Int)) = true := by simp; omega
    go_enter Tryz.func7, Tryz.ntmps7
    go_wp2_with (go_at_call 11; (with_reducible refine (CA.out _).mono ?_); rintro e w1 ⟨rfl, h1⟩)
    go_ret
    exact ⟨rfl, h1⟩
  have d3 : decide (12 < (m : Int)) = false := by simp; omega
  obtain ⟨z, hz⟩ : ∃ z : Nat → Nat, ∀ i, i < n → zs.getD i 0 = ((z i : Nat) : Int) ∧ z i < 18446744073709551616 := ⟨fun i => (zs.getD i 0).toNat, fun i hi => by
    have h1 : zs.getD i 0 = zs[i]'(by omega) := by rw [List.getD_eq_getElem?_getD, List.getElem?_eq_getElem (by omega)]; rfl
    have h2 := hzr _ (List.getElem_mem (l := zs) (n := i) (by omega))
    rw [← h1] at h2
    dsimp only
    omega⟩
  obtain ⟨e, he⟩ : ∃ e : Nat → Int, ∀ i, (0 ≤ e i ∧ e i ≤ 3) ∧ bits .and .i64 (es.getD (i % m) 0) 3 = e i := ⟨fun i => bits .and .i64 (es.getD (i % m) 0) 3, fun i => ⟨hdAnd3 _, rfl⟩⟩
  obtain ⟨b0, o0, hA1⟩ := hA
  obtain ⟨b1, o1, hB1⟩ := hB
  obtain ⟨rfl, hb0, -⟩ := hA1 0 (by omega)
  obtain ⟨rfl, hb1, -⟩ := hB1 0 (by omega)
  have HZ : Hid (∀ w, Below W.heap.size W w → ∀ i, i < n → w.cell? ⟨b0, o0 + i, none⟩ = some (.int .u64 (z i : Nat))) := fun w hw i hi => by
    have h1 := (hA1 i (by omega)).2.2
    rw [(hz i hi).1] at h1
    exact (hw.cell (p := ⟨b0, o0 + i, none⟩) hb0).trans h1
  have HE : Hid (∀ w, Below W.heap.size W w → ∀ i, w.cell? ⟨b1, o1 + i % m, none⟩ = some (.int .i64 (es.getD (i % m) 0))) := fun w hw i => by
    have h1 := (hB1 (i % m) (by have := Nat.mod_lt i (show 0 < m by omega); omega)).2.2
    exact (hw.cell (p := ⟨b1, o1 + i % m, none⟩) hb1).trans h1
  clear hA1 hB1 hb0 hb1 hzr hn hm
  have C0 : Hid (∀ w, Below W.heap.size W w → Calls Tryz.prog 12 #[.int .i64 5, .int .i64 10] w fun e w' => ∃ g, e = .returned (.pointer (some ⟨g, 0, none⟩)) ∧ DX VD W w' [] g (HO.new 5 10)) := fun w hw => by
    refine (DX.new (P := []) L 5 10 hw (by simp) ⟨by decide, by decide⟩ ⟨by decide, by decide⟩).mono ?_
    rintro e w' ⟨g, rfl, h, -⟩
    exact ⟨g, rfl, h⟩
  have HN0 : ¬ n < 2 := q0
  go_enter Tryz.func7, Tryz.ntmps7
  go_wp2_with (go_at_call 11; (with_reducible refine (CA.out _).mono ?_); rintro e w1 ⟨rfl, h1⟩; have H1 := Lib.hid h1; clear h1)
  clear CA
  go_loopg [5] (n + 1) (fun gh s5 wx => ∃ i : Nat, i + gh = n + 1 ∧ i + 1 ≤ n ∧ s5 = .int .i64 ((i : Int) + 1) ∧ Hid (∀ j, j < i → z j < z (j + 1)) ∧ Hid (Below W.heap.size W wx))
  case atStart => exact ⟨0, by omega, by omega, rfl, (fun j hj => by omega), H1⟩
  case round =>
    obtain ⟨i, hig, hi, rfl, HUP, HB⟩ := hrel
    have zm : IntKind.i64.wrap ((i : Int) + 1 - 1) = (i : Int) := by rw [IntKind.wrap_i64]; omega
    have zp : IntKind.i64.wrap ((i : Int) + 1 + 1) = (i : Int) + 1 + 1 := by rw [IntKind.wrap_i64]; omega
    by_cases hlt : i + 1 < n
    · have i1 : (i : Int) + 1 < (n : Int) := by omega
      have e1 := HZ.out _ HB.out i (by omega)
      have e2 := HZ.out _ HB.out (i + 1) hlt
      by_cases hge : z (i + 1) ≤ z i
      · have i2 : ((z (i + 1) : Nat) : Int) ≤ ((z i : Nat) : Int) := by omega
        go_upto_region 6 with fail
        go_quiet (fail)
        go_wp2_with fail
        go_ret
        exact ⟨rfl, acc HB.out ⟨rfl, rfl, rfl, Nat.le_refl _, fun _ _ => rfl⟩⟩
      · have i2 : ¬ ((z (i + 1) : Nat) : Int) ≤ ((z i : Nat) : Int) := by omega
        go_upto_region 6 with fail
        go_quiet (fail)
        go_wp2_with fail
        go_roundg (gk - 1)
        case measure => omega
        case rel =>
          exact ⟨i + 1, by omega, by omega, by go_num, (fun j hj => by
            by_cases h : j = i
            · subst h; omega
            · exact HUP.out j (by omega)), acc HB.out ⟨rfl, rfl, rfl, Nat.le_refl _, fun _ _ => rfl⟩⟩
    · have hni : n = i + 1 := by omega
      have hC : Cuts z e i := ⟨HUP.out, fun j hj => (hz j (by omega)).2, fun j => (he j).1⟩
      have CO : Hid (∀ w g j, j < i → DX VD W w [] g (HA z e j) → Calls Tryz.prog 13 #[.pointer (some ⟨g, 0, none⟩), .agg #[.int .u64 (z j : Nat), .int .u64 (z (j + 1) : Nat)], .int .i64 (e j)] w fun e' w' => e' = .returned (.bool true) ∧ DX VD W w' [] g (HA z e (j + 1))) := fun w g j hj h => by
        refine (h.own L (z j) (z (j + 1)) (e j) (hC.lt _ (by omega)) (hC.lt _ (by omega)) ⟨by have := hC.ep j; omega, by have := hC.ep j; omega⟩ (by rw [HA_k]; omega)).mono ?_
        rintro e' w' (⟨-, rfl, h1, -⟩ | ⟨h1, -⟩)
        · exact ⟨rfl, h1⟩
        · exact absurd (HA_may hC hj) h1
      have HMX : Hid (∀ j, 0 ≤ mxe e j ∧ mxe e j ≤ 3) := mxe_range fun j => (he j).1
      have HEV : Hid (∀ j, bits .and .i64 (es.getD (j % m) 0) 3 = e j) := fun j => (he j).2
      have HMD : Hid (∀ j : Nat, (j : Int).tmod (m : Int) = ((j % m : Nat) : Int) ∧ j % m < m) := fun j => ⟨rfl, Nat.mod_lt _ (by omega)⟩
      have HC := Lib.hid hC
      have HNI := Lib.hid hni
      have i1 : ¬ (i : Int) + 1 < (n : Int) := by omega
      clear hC he hz HUP zm zp hlt hig hi hni
      go_wp2_with (go_at_call 12; (with_reducible refine (C0.out _ HB.out).mono ?_); rintro e w2 ⟨g, rfl, x2⟩; have X2 := Lib.hid x2; clear x2)
      clear C0 HB H1 i1
      go_loopg [7, 8, 9, 10] (i + 1) (fun gh s7 s8 s9 s10 wx => ∃ j : Nat, j + gh = i + 1 ∧ j ≤ i ∧ s7 = .int .i64 (cnt e j : Nat) ∧ s8 = .int .i64 (mxe e j) ∧ s9 = .int .i64 (j : Nat) ∧ Hid (DX VD W wx [] g (HA z e j)))
      case atStart => exact ⟨0, by omega, by omega, rfl, rfl, rfl, X2⟩
      case round =>
        clear X2
        obtain ⟨j, hjg, hj, rfl, rfl, rfl, HX⟩ := hrel
        by_cases hlt : j < i
        · have i1 : (j : Int) + 1 < (n : Int) := by have := HNI.out; omega
          have i3 : ¬ (j : Int) + 1 < 0 := by omega
          have i5 : 0 ≤ (j : Int) + 1 := by omega
          have i4 : ((j : Int) + 1).toNat = j + 1 := by omega
          have i0 : (j : Int) < (n : Int) := by have := HNI.out; omega
          have zp : IntKind.i64.wrap ((j : Int) + 1) = (j : Int) + 1 := by rw [IntKind.wrap_i64]; omega
          have md := (HMD.out j).1
          have ml : ((j % m : Nat) : Int) < (m : Int) := by have := (HMD.out j).2; omega
          have e1 := HE.out _ HX.out.base j
          have ev := HEV.out j
          generalize es.getD (j % m) 0 = vj at e1 ev
          have HCL : Hid (∀ w', Below W.heap.size W w' → w'.cell? ⟨b0, o0 + j, none⟩ = some (.int .u64 (z j : Nat)) ∧ w'.cell? ⟨b0, o0 + (j + 1), none⟩ = some (.int .u64 (z (j + 1) : Nat))) := fun w' hw => ⟨HZ.out w' hw j (by have := HNI.out; omega), HZ.out w' hw (j + 1) (by have := HNI.out; omega)⟩
          have zc : IntKind.i64.wrap ((cnt e j : Nat) + 1 : Int) = ((cnt e j + 1 : Nat) : Int) := by have := cnt_le e j; rw [IntKind.wrap_i64]; omega
          have HX9 := Lib.hid (DX.below L HX.out (Below.refl _ wr).drew)
          by_cases hj0 : j = 0
          · have d16 : ((j : Int) == 0) = true := by simp [hj0]
            have HCN : Hid (cnt e (j + 1) = cnt e j + 1) := by rw [hj0]; rfl
            clear hj0
            by_cases hmx : mxe e j < e j
            · have HMJ : Hid (mxe e (j + 1) = e j) := by show max (mxe e j) (e j) = _; omega
              go_upto_region 19 with fail
              go_region_held3 (fun w' => w'.cell? ⟨b0, o0 + j, none⟩ = some (.int .u64 (z j : Nat)) ∧ w'.cell? ⟨b0, o0 + (j + 1), none⟩ = some (.int .u64 (z (j + 1) : Nat))) (first | exact HCL.out _ X4.out.base | exact HCL.out _ HX9.out.base)
                (first | (go_at_call 13; (with_reducible refine (CO.out _ _ j hlt HX9.out).mono ?_); rintro e4 w4 ⟨rfl, x4⟩; have X4 := Lib.hid x4; clear x4))
              go_wp2_with fail
              go_roundg (gk - 1)
              case measure => omega
              case rel => exact ⟨j + 1, by omega, by omega, by rw [HCN.out]; go_num, (by first | exact congrArg (Value.int .i64) HMJ.out.symm | rfl), rfl, X4⟩
            · have HMJ : Hid (mxe e (j + 1) = mxe e j) := by show max (mxe e j) (e j) = _; omega
              go_upto_region 19 with fail
              go_region_held3 (fun w' => w'.cell? ⟨b0, o0 + j, none⟩ = some (.int .u64 (z j : Nat)) ∧ w'.cell? ⟨b0, o0 + (j + 1), none⟩ = some (.int .u64 (z (j + 1) : Nat))) (first | exact HCL.out _ X4.out.base | exact HCL.out _ HX9.out.base)
                (first | (go_at_call 13; (with_reducible refine (CO.out _ _ j hlt HX9.out).mono ?_); rintro e4 w4 ⟨rfl, x4⟩; have X4 := Lib.hid x4; clear x4))
              go_wp2_with fail
              go_roundg (gk - 1)
              case measure => omega
              case rel => exact ⟨j + 1, by omega, by omega, by rw [HCN.out]; go_num, (by first | exact congrArg (Value.int .i64) HMJ.out.symm | rfl), rfl, X4⟩
          · have d16 : ((j : Int) == 0) = false := by simp [hj0]
            obtain ⟨r, hr⟩ : ∃ r : Nat, j = r + 1 := ⟨j - 1, by omega⟩
            have zr : IntKind.i64.wrap ((j : Int) - 1) = (r : Int) := by rw [IntKind.wrap_i64]; omega
            have e3 := HE.out _ HX.out.base r
            have ev3 := HEV.out r
            have md3 := (HMD.out r).1
            have ml3 : ((r % m : Nat) : Int) < (m : Int) := by have := (HMD.out r).2; omega
            generalize es.getD (r % m) 0 = vr at e3 ev3
            by_cases he : e j = e r
            · have d17 : (e j != e r) = false := by simp [he]
              have HCN : Hid (cnt e (j + 1) = cnt e j) := by rw [hr] at he ⊢; show cnt e (r + 1) + (if e (r + 1) = e r then 0 else 1) = _; rw [if_pos he]; rfl
              clear he hj0 hr
              by_cases hmx : mxe e j < e j
              · have HMJ : Hid (mxe e (j + 1) = e j) := by show max (mxe e j) (e j) = _; omega
                go_upto_region 19 with fail
                go_region_held3 (fun w' => w'.cell? ⟨b0, o0 + j, none⟩ = some (.int .u64 (z j : Nat)) ∧ w'.cell? ⟨b0, o0 + (j + 1), none⟩ = some (.int .u64 (z (j + 1) : Nat))) (first | exact HCL.out _ X4.out.base | exact HCL.out _ HX9.out.base)
                  (first | (go_at_call 13; (with_reducible refine (CO.out _ _ j hlt HX9.out).mono ?_); rintro e4 w4 ⟨rfl, x4⟩; have X4 := Lib.hid x4; clear x4))
                go_wp2_with fail
                go_roundg (gk - 1)
                case measure => omega
                case rel => exact ⟨j + 1, by omega, by omega, by rw [HCN.out], (by first | exact congrArg (Value.int .i64) HMJ.out.symm | rfl), rfl, X4⟩
              · have HMJ : Hid (mxe e (j + 1) = mxe e j) := by show max (mxe e j) (e j) = _; omega
                go_upto_region 19 with fail
                go_region_held3 (fun w' => w'.cell? ⟨b0, o0 + j, none⟩ = some (.int .u64 (z j : Nat)) ∧ w'.cell? ⟨b0, o0 + (j + 1), none⟩ = some (.int .u64 (z (j + 1) : Nat))) (first | exact HCL.out _ X4.out.base | exact HCL.out _ HX9.out.base)
                  (first | (go_at_call 13; (with_reducible refine (CO.out _ _ j hlt HX9.out).mono ?_); rintro e4 w4 ⟨rfl, x4⟩; have X4 := Lib.hid x4; clear x4))
                go_wp2_with fail
                go_roundg (gk - 1)
                case measure => omega
                case rel => exact ⟨j + 1, by omega, by omega, by rw [HCN.out], (by first | exact congrArg (Value.int .i64) HMJ.out.symm | rfl), rfl, X4⟩
            · have d17 : (e j != e r) = true := by simp [he]
              have HCN : Hid (cnt e (j + 1) = cnt e j + 1) := by rw [hr] at he ⊢; show cnt e (r + 1) + (if e (r + 1) = e r then 0 else 1) = _; rw [if_neg he]
              clear he hj0 hr
              by_cases hmx : mxe e j < e j
              · have HMJ : Hid (mxe e (j + 1) = e j) := by show max (mxe e j) (e j) = _; omega
                go_upto_region 19 with fail
                go_region_held3 (fun w' => w'.cell? ⟨b0, o0 + j, none⟩ = some (.int .u64 (z j : Nat)) ∧ w'.cell? ⟨b0, o0 + (j + 1), none⟩ = some (.int .u64 (z (j + 1) : Nat))) (first | exact HCL.out _ X4.out.base | exact HCL.out _ HX9.out.base)
                  (first | (go_at_call 13; (with_reducible refine (CO.out _ _ j hlt HX9.out).mono ?_); rintro e4 w4 ⟨rfl, x4⟩; have X4 := Lib.hid x4; clear x4))
                go_wp2_with fail
                go_roundg (gk - 1)
                case measure => omega
                case rel => exact ⟨j + 1, by omega, by omega, by rw [HCN.out]; go_num, (by first | exact congrArg (Value.int .i64) HMJ.out.symm | rfl), rfl, X4⟩
              · have HMJ : Hid (mxe e (j + 1) = mxe e j) := by show max (mxe e j) (e j) = _; omega
                go_upto_region 19 with fail
                go_region_held3 (fun w' => w'.cell? ⟨b0, o0 + j, none⟩ = some (.int .u64 (z j : Nat)) ∧ w'.cell? ⟨b0, o0 + (j + 1), none⟩ = some (.int .u64 (z (j + 1) : Nat))) (first | exact HCL.out _ X4.out.base | exact HCL.out _ HX9.out.base)
                  (first | (go_at_call 13; (with_reducible refine (CO.out _ _ j hlt HX9.out).mono ?_); rintro e4 w4 ⟨rfl, x4⟩; have X4 := Lib.hid x4; clear x4))
                go_wp2_with fail
                go_roundg (gk - 1)
                case measure => omega
                case rel => exact ⟨j + 1, by omega, by omega, by rw [HCN.out]; go_num, (by first | exact congrArg (Value.int .i64) HMJ.out.symm | rfl), rfl, X4⟩
        · have hji : j = i := by omega
          subst hji
          have i1 : ¬ (j : Int) + 1 < (n : Int) := by have := HNI.out; omega
          have zp : IntKind.i64.wrap ((j : Int) + 1) = (j : Int) + 1 := by have := HNI.out; rw [IntKind.wrap_i64]; omega
          have zl : IntKind.i64.wrap ((n : Int) - 1) = (j : Int) := by have := HNI.out; rw [IntKind.wrap_i64]; omega
          have i0 : (j : Int) < (n : Int) := by have := HNI.out; omega
          have i7 : (0 : Int) < (n : Int) := by omega
          have i8 : 0 < n := by omega
          obtain ⟨k, hk⟩ : ∃ k, j = k + 1 := ⟨j - 1, by have := HNI.out; omega⟩
          have hKj : k < j := by omega
          have hj13 : j ≤ 12 := by have := HNI.out; omega
          have CP : Hid (∀ w, DX VD W w [] g (HA z e j) → Calls Tryz.prog 28 #[.pointer (some ⟨g, 0, none⟩)] w fun e' w' => ∃ q oq cc, e' = .returned (.slice (some ⟨q, oq, none⟩) 1 cc) ∧ DX VD W w' [] g (HA z e j) ∧ ∀ w'', Below w'.heap.size w' w'' → w''.cell? ⟨q, oq, none⟩ = some (.int .u64 (z 0 : Nat)) ∧ w''.cell? ⟨q, oq + 1, none⟩ = some (.int .u64 (z j : Nat)) ∧ w''.cell? ⟨q, oq + 2, none⟩ = some (.int .i64 5) ∧ w''.cell? ⟨q, oq + 3, none⟩ = some (.int .i64 (mxe e j))) := fun w h => by
            have h0 := h
            obtain ⟨_, ⟨F, b, _⟩, _⟩ := h0
            refine (L.pieces (by rw [HA_k]; omega) b).mono ?_
            rintro e' w' ⟨l, m, A, c, rfl, ho, ha, hk1, hlen, hpq, hb⟩
            have hm := HA_piece HC.out (i := k) hKj ha (by rw [← hk]; exact hk1)
            rw [← hk] at hm
            subst hm
            obtain ⟨p, rfl⟩ : ∃ p, l = [p] := List.length_eq_one_iff.1 hlen.symm
            obtain ⟨e1, e2, e3⟩ := hpq 0 p _ rfl rfl
            have hup : z 0 < z j := by have h1 := HC.out.mono (i := 0) (j := k) (by omega) (by omega); have h2 := HC.out.up k hKj; rw [hk]; omega
            have e4 : p.e = mxe e j := e3.same (by
              rw [e1, e2, hk]
              rw [hk] at hup HC
              exact HA_greatest HC.out (by omega) fun x hx hr => (inm hup (HC.out.lt _ (Nat.le_refl _)) hx).2 hr)
            obtain ⟨q, oq, rfl⟩ := ho.1.at_ (by simp)
            refine ⟨q, oq, c, rfl, h.below L hb, fun w'' hw => ?_⟩
            have hr := ho.1.below hw
            have c0 := hr.cellAt 0 (by simp)
            have c1 := hr.cellAt 1 (by simp)
            have c2 := hr.cellAt 2 (by simp)
            have c3 := hr.cellAt 3 (by simp)
            refine ⟨c0.trans ?_, c1.trans ?_, c2.trans ?_, c3.trans ?_⟩
            · show some (Value.int .u64 (p.f : Nat)) = _
              rw [e1]
            · show some (Value.int .u64 (p.t : Nat)) = _
              rw [e2]
            · show some (Value.int .i64 (HA z e j).nd) = _
              rw [HA_nd]
            · show some (Value.int .i64 p.e) = _
              rw [e4]
          have CAR : Hid (∀ w, DX VD W w [] g (HA z e j) → Calls Tryz.prog 29 #[.pointer (some ⟨g, 0, none⟩)] w fun e' w' => (∃ A c, e' = .returned (.slice A (cnt e j) c)) ∧ DX VD W w' [] g (HA z e j) ∧ Below w.heap.size w w') := fun w h => by
            have h0 := h
            obtain ⟨_, ⟨F, b, _⟩, _⟩ := h0
            refine (L.arcs (by rw [HA_k]; omega) b).mono ?_
            rintro e' w' ⟨l, A, c, rfl, -, ha, hk1, hb⟩
            have hm := arcs_cnt HC.out (i := k) hKj ha (by rw [← hk]; exact hk1)
            rw [← hk] at hm
            exact ⟨⟨A, c, by rw [hm]⟩, h.below L hb, hb⟩
          have CEP : Hid (∀ w, DX VD W w [] g (HA z e j) → Calls Tryz.prog 19 #[.pointer (some ⟨g, 0, none⟩)] w fun e' w' => e' = .returned (.int .i64 (mxe e j)) ∧ DX VD W w' [] g (HA z e j) ∧ Below w.heap.size w w') := fun w h => by
            refine (h.epoch L (by rw [HA_k]; omega)).mono ?_
            rintro e' w' ⟨⟨ep, rfl, hg⟩, hb⟩
            have hG := HA_greatest HC.out (i := k) hKj (q := fun _ => True) (fun _ _ _ => trivial)
            rw [← hk] at hG
            refine ⟨?_, h.below L hb, hb⟩
            rcases hg with hg | ⟨hg, -⟩
            · rw [hg.same hG]
            · obtain ⟨-, x, x1, -, x2⟩ := hG
              rw [hg x x1] at x2
              cases x2
          have HCZ : Hid (∀ w', Below W.heap.size W w' → w'.cell? ⟨b0, o0, none⟩ = some (.int .u64 (z 0 : Nat)) ∧ w'.cell? ⟨b0, o0 + j, none⟩ = some (.int .u64 (z j : Nat))) := fun w' hw => ⟨HZ.out w' hw 0 (by omega), HZ.out w' hw j (by have := HNI.out; omega)⟩
          clear hk hKj hj13
          go_upto_region 22 with (go_at_call 28; (with_reducible refine (CP.out _ HX.out).mono ?_); rintro e5 w5 ⟨q, oq, cc, rfl, x5, k5⟩; have X5 := Lib.hid x5; have K5 := Lib.hid k5; clear x5 k5)
          have B9 := Lib.hid ((Below.refl w5.heap.size w5).drew)
          have X9 := Lib.hid (DX.below L X5.out B9.out)
          have HCS : Hid (∀ w', Below w5.heap.size w5 w' → (fun w' => w'.cell? ⟨b0, o0, none⟩ = some (.int .u64 (z 0 : Nat)) ∧ w'.cell? ⟨b0, o0 + j, none⟩ = some (.int .u64 (z j : Nat)) ∧ w'.cell? ⟨q, oq, none⟩ = some (.int .u64 (z 0 : Nat)) ∧ w'.cell? ⟨q, oq + 1, none⟩ = some (.int .u64 (z j : Nat)) ∧ w'.cell? ⟨q, oq + 2, none⟩ = some (.int .i64 5) ∧ w'.cell? ⟨q, oq + 3, none⟩ = some (.int .i64 (mxe e j))) w') := fun w' hw => ⟨(HCZ.out w' (acc X5.out.base hw)).1, (HCZ.out w' (acc X5.out.base hw)).2, (K5.out w' hw).1, (K5.out w' hw).2.1, (K5.out w' hw).2.2.1, (K5.out w' hw).2.2.2⟩
          go_region_held3 (fun w' => w'.cell? ⟨b0, o0, none⟩ = some (.int .u64 (z 0 : Nat)) ∧ w'.cell? ⟨b0, o0 + j, none⟩ = some (.int .u64 (z j : Nat)) ∧ w'.cell? ⟨q, oq, none⟩ = some (.int .u64 (z 0 : Nat)) ∧ w'.cell? ⟨q, oq + 1, none⟩ = some (.int .u64 (z j : Nat)) ∧ w'.cell? ⟨q, oq + 2, none⟩ = some (.int .i64 5) ∧ w'.cell? ⟨q, oq + 3, none⟩ = some (.int .i64 (mxe e j))) (first | exact HCS.out _ B11.out | exact HCS.out _ B10.out | exact HCS.out _ B9.out)
            (first
              | (go_at_call 19; (with_reducible refine (CEP.out _ X10.out).mono ?_); rintro e7 w7 ⟨rfl, x7, h7⟩; have X11 := Lib.hid x7; have B11 := Lib.hid (B10.out.trans (h7.mono B10.out.size)); clear x7 h7)
              | (go_at_call 29; (with_reducible refine (CAR.out _ X9.out).mono ?_); rintro e6 w6 ⟨⟨A6, c6, rfl⟩, x6, h6⟩; have X10 := Lib.hid x6; have B10 := Lib.hid (B9.out.trans (h6.mono B9.out.size)); clear x6 h6))
          go_wp2_with fail
          go_ret
          exact ⟨by first | rfl | simp, X11.out.base⟩

end
end Go.Proofs.YthgndgoljchnfaaGreat
