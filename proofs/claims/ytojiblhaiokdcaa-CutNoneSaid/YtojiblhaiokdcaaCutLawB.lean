/-
  CutNone: of items of which one may not be put in none is. (Written by tools/genCNone.py.)
-/
import Derived.Test.YtojiblhaiokdcaaCutBegin
import Derived.Test.YtojiblhaiokdcaaCutLawA
import Derived.Test.YtojiblhaiokdcaaCutLawC
namespace Go.Proofs.Ytojiblhaiokdcaa
open Go.RowKit

theorem place_bound (x : Int) (n : Nat) (hn : n ≤ 40) : ∃ k : Nat, (wrap64 (wrap64 (x.tmod ((n : Int) + 1) + (n : Int)) + 1)).tmod ((n : Int) + 1) = (k : Nat) ∧ k ≤ n := by
  have h1 : x.tmod ((n : Int) + 1) < (n : Int) + 1 := Int.tmod_lt_of_pos _ (by omega)
  have h2 : -((n : Int) + 1) < x.tmod ((n : Int) + 1) := Int.lt_tmod_of_pos _ (by omega)
  have w1 : wrap64 (x.tmod ((n : Int) + 1) + (n : Int)) = x.tmod ((n : Int) + 1) + (n : Int) := by unfold wrap64; omega
  have w2 : wrap64 (x.tmod ((n : Int) + 1) + (n : Int) + 1) = x.tmod ((n : Int) + 1) + (n : Int) + 1 := by unfold wrap64; omega
  rw [w1, w2]
  have h3 : (x.tmod ((n : Int) + 1) + (n : Int) + 1).tmod ((n : Int) + 1) < (n : Int) + 1 := Int.tmod_lt_of_pos _ (by omega)
  have h4 : 0 ≤ (x.tmod ((n : Int) + 1) + (n : Int) + 1).tmod ((n : Int) + 1) := Int.tmod_nonneg _ (by omega)
  obtain ⟨k, hk⟩ := Int.eq_ofNat_of_zero_le h4
  exact ⟨k, hk, by omega⟩
/-- a part of a list as append's source -/
theorem from_take {w : World} {b off : Nat} {sp : Option Nat} {ms : List Item} {k c : Nat} (hk : k ≤ ms.length) (h : ∀ i (h : i < ms.length), (⟨b, off, sp⟩ : Addr) = ⟨b, off, none⟩ ∧ w.cell? ⟨b, off + i * 2, none⟩ = some (.string (ms[i]).1) ∧ w.cell? ⟨b, off + i * 2 + 1, none⟩ = some (.string (ms[i]).2)) :
    From w 2 (.slice (some ⟨b, off, sp⟩) k c) k (itemCells (ms.take k)) := by
  refine .inr ⟨_, _, rfl, by rw [itemCells_length, List.length_take, Nat.min_eq_left hk], fun j u hj => ?_⟩
  have hlt := (List.getElem?_eq_some_iff.1 hj).1
  rw [itemCells_length, List.length_take, Nat.min_eq_left hk] at hlt
  have e := (h 0 (by omega)).1
  rw [e, show (⟨b, off, none⟩ : Addr).add j = ⟨b, off + j, none⟩ by simp [Addr.add]]
  rw [← itemCells_take, List.getElem?_take_of_lt (by omega)] at hj
  exact cells_of (fun i hi => (h i hi).2) j u hj
theorem from_drop {w : World} {b off : Nat} {sp : Option Nat} {ms : List Item} {k c : Nat} (hk : k ≤ ms.length) (h : ∀ i (h : i < ms.length), (⟨b, off, sp⟩ : Addr) = ⟨b, off, none⟩ ∧ w.cell? ⟨b, off + i * 2, none⟩ = some (.string (ms[i]).1) ∧ w.cell? ⟨b, off + i * 2 + 1, none⟩ = some (.string (ms[i]).2)) :
    From w 2 (.slice (some ((⟨b, off, sp⟩ : Addr).add (k * 2))) (ms.length - k) c) (ms.length - k) (itemCells (ms.drop k)) := by
  refine .inr ⟨_, _, rfl, by rw [itemCells_length, List.length_drop], fun j u hj => ?_⟩
  have hlt := (List.getElem?_eq_some_iff.1 hj).1
  rw [itemCells_length, List.length_drop] at hlt
  have e := (h 0 (by omega)).1
  injection e with _ _ e
  have ea : ∀ x y, (⟨b, x, none⟩ : Addr).add y = ⟨b, x + y, none⟩ := fun x y => by simp [Addr.add]
  rw [e, ea, ea, Nat.add_assoc]
  rw [← itemCells_drop, List.getElem?_drop] at hj
  exact cells_of (fun i hi => (h i hi).2) _ u hj
set_option maxRecDepth 100000 in
set_option maxHeartbeats 8000000 in
theorem cutNoneGo (A0 : Option Addr) (c0 : Nat) (zs : List Item) (A1 : Option Addr) (c1 : Nat) (ms : List Item) (at_ : Int) (bk bv : ByteArray) (W : World) (hA : ItemsAt W A0 zs) (hM : ItemsAt W A1 ms) (hz : zs.length ≤ 40) (hm : ms.length ≤ 40) (hc : ms.length ≤ c1) (hcm : c1 ≤ maxLen)
    (hn : A1 = none → c1 = 0) (hk : bk.size ≤ 60) (hv : bv.size ≤ 60) (hbad : rightN bk ≠ 0 ∨ valueN bv ≠ 0) :
    Calls Try.prog 6 #[.slice A0 zs.length c0, .slice A1 ms.length c1, .int .i64 at_, .agg #[.string bk, .string bv]] W fun e w' => e = .returned (.bool true) ∧ Below W.heap.size W w' := by
  have CA : Hid (∀ w, Calls Try.prog 9 #[] w fun e w' => e = .returned (.bool true) ∧ Below w.heap.size w w') := fun w => cutAlive_any w w (Below.refl _ _)
  obtain ⟨i0, hi0, hz0, hs0, hb0⟩ := infoItems
  obtain ⟨V, hV⟩ : ∃ V, W.alloc (.cells #[.string bk, .string bv] 39) = V := ⟨_, rfl⟩
  have HBX : Hid (Below W.heap.size W V) := by rw [← hV]; exact (Below.refl _ _).alloc (Nat.le_refl _) _
  have HVB : Hid (Var2 V W.heap.size (.string bk) (.string bv)) := by rw [← hV]; exact Var2.new W _ _ _
  have HMV := Lib.hid (hM.below HBX.out)
  have hAV := hA.below HBX.out
  obtain ⟨l, hl⟩ : ∃ l, fillL zs = l := ⟨_, rfl⟩
  have hlen : l.length ≤ 60 := by rw [← hl]; exact fillL_length zs
  have CF : Hid (∀ w, Below V.heap.size V w → Calls Try.prog 10 #[.slice A0 zs.length c0] w fun e w' => ∃ gs gr P, e = .returned (.tuple #[.pointer (some ⟨gs, 0, none⟩), .pointer (some ⟨gr, 0, none⟩)]) ∧ S1 V w' P gs 200 l) := fun w hw => (filled_any shelfLaws A0 c0 zs V w hw hAV (by omega)).mono (by
    rintro e w' ⟨gs, gr, rfl, z⟩
    rw [hl] at z
    obtain ⟨Fr, z1, _⟩ := S1.of z
    exact ⟨gs, gr, _, rfl, z1⟩)
  have CK := Lib.hid (fun w => refKey_any bk w (by unfold maxLen; omega))
  have CV := Lib.hid (fun w => refValue_any bv w (by unfold maxLen; omega))
  obtain ⟨nl, hnl⟩ : ∃ n, l.length = n := ⟨_, rfl⟩
  have CIT : Hid (∀ w gs P, S1 V w P gs 200 l → Calls Try.prog 22 #[.pointer (some ⟨gs, 0, none⟩)] w fun e w' => ∃ A c, e = .returned (.slice A nl c) ∧ w'.ownsRow 0 39 2 (.slice A nl c) nl (itemCells l) ∧ S1 V w' (P ++ (Value.slice A nl c).ownBlock.toList) gs 200 l ∧ Below w.heap.size w w') := fun w gs P h => h.items.mono (by
    rintro e w' ⟨A, c, rfl, z1, z2, z3⟩
    rw [hnl] at z1 z2 ⊢
    exact ⟨A, c, rfl, own_mono z1 (Nat.zero_le _), z2, z3⟩)
  have CS : Hid (∀ w A B c d, w.ownsRow 0 39 2 (.slice A nl c) nl (itemCells l) → w.ownsRow 0 39 2 (.slice B nl d) nl (itemCells l) → Calls Try.prog 19 #[.slice A nl c, .slice B nl d] w fun e w' => e = .returned (.bool true) ∧ ∃ j, w' = w.drewN j) := fun w A B c d h1 h2 => same_any A B c d nl _ _ l w hnl h1 h2
  obtain ⟨n, hnm⟩ : ∃ n, ms.length = n := ⟨_, rfl⟩
  obtain ⟨nz, hnz⟩ : ∃ n, zs.length = n := ⟨_, rfl⟩
  rw [hnz] at CF hz ⊢
  rw [hnm] at hm hc ⊢
  have HN := Lib.hid hnm
  have HVE := Lib.hid hV
  have d0 : decide ((40 : Int) < (nz : Int)) = false := by simp; omega
  have d1 : decide ((40 : Int) < (n : Int)) = false := by simp; omega
  have d2 : decide ((60 : Int) < (bk.size : Int)) = false := by simp; omega
  have d3 : decide ((60 : Int) < (bv.size : Int)) = false := by simp; omega
  have HBAD := Lib.hid hbad
  have hkk := hk
  have hvv := hv
  -- the first test
  have tests : ((rightN bk == 0) = false) ∨ ((rightN bk == 0) = true ∧ (valueN bv == 0) = false) := by
    by_cases c : rightN bk = 0
    · exact .inr ⟨by simp [c], by rcases hbad with h | h; exact absurd c h; simpa using h⟩
    · exact .inl (by simpa using c)
  clear hA hM hAV hl hnl hnz hnm hV hbad
  obtain ⟨rk, hrk⟩ : ∃ r, rightN bk = r := ⟨_, rfl⟩
  obtain ⟨rv, hrv⟩ : ∃ r, valueN bv = r := ⟨_, rfl⟩
  rw [hrk] at CK tests
  rw [hrv] at CV tests
  clear hrk hrv
  go_enter Try.func6, Try.ntmps6
  go_upto_region 3 with (go_at_call 9; (with_reducible refine (CA.out _).mono ?_); rintro e w1 ⟨rfl, h1⟩; rw [HVE.out] at h1; obtain ⟨y0, y1, -, -⟩ := HVB.out.below h1; have B1 := Lib.hid h1; clear h1)
  go_cut [50] (fun s50 wx => s50 = .bool false ∧ Hid (Below V.heap.size V wx))
  case first =>
    rcases tests with tt | ⟨tt, tu⟩
    · go_wp2_with (go_at_call 23; (with_reducible refine (CK.out _).mono ?_); rintro e w2 ⟨rfl, rfl⟩)
      go_meet
      exact ⟨rfl, B1.out⟩
    · go_wp2_with (first | (go_at_call 23; (with_reducible refine (CK.out _).mono ?_); rintro e w2 ⟨rfl, rfl⟩) | (go_at_call 24; (with_reducible refine (CV.out _).mono ?_); rintro e w3 ⟨rfl, rfl⟩))
      go_meet
      exact ⟨rfl, B1.out⟩
  case rest =>
    obtain ⟨rfl, hb1⟩ := hcut
    have HB1 := Lib.hid hb1.out
    clear hb1 y0 y1 tests B1
    obtain ⟨wd, rfl⟩ : ∃ wd : World, wd = wc := ⟨_, rfl⟩
    go_wp2_with fail
    go_loopg [53] (n + 1) (fun gh s53 wx => ∃ i : Nat, i + gh = n + 1 ∧ i ≤ n ∧ s53 = .int .i64 (i : Nat) ∧ Hid (Below V.heap.size V wx) ∧ Hid (∀ j (h : j < ms.length), j < i → (ms[j]).1.size ≤ 60 ∧ (ms[j]).2.size ≤ 60))
    case atStart => exact ⟨0, by omega, by omega, rfl, HB1.out, fun j _ h => by omega⟩
    case round =>
      obtain ⟨i, hig, hi, rfl, HB, HS⟩ := hrel
      by_cases hlt : i < n
      · have hil : i < ms.length := by rw [HN.out]; exact hlt
        obtain ⟨b, off, hcell⟩ := HMV.out
        obtain ⟨rfl, hbV, q0, q1⟩ := hcell i hil
        obtain ⟨x, hx⟩ : ∃ x, ms[i] = x := ⟨_, rfl⟩
        rw [hx] at q0 q1
        obtain ⟨xk, xv⟩ := x
        have ck := (HB.out.cell (p := ⟨b, off + i * 2, none⟩) hbV).trans q0
        have cv := (HB.out.cell (p := ⟨b, off + i * 2 + 1, none⟩) hbV).trans q1
        dsimp only at ck cv
        have HX := Lib.hid hx
        have hbw : Below V.heap.size V (wr.alloc (.cells #[.string xk, .string xv] 39)) := HB.out.alloc HB.out.size _
        have HBW := Lib.hid hbw
        clear hcell q0 q1 hbw
        by_cases ek : 60 < xk.size
        · have e0 : decide ((60 : Int) < (xk.size : Int)) = true := by simp; omega
          go_wp2_with fail
          go_ret
          exact ⟨rfl, acc HBX.out HBW.out⟩
        have e0 : decide ((60 : Int) < (xk.size : Int)) = false := by simp; omega
        by_cases ev : 60 < xv.size
        · have e1 : decide ((60 : Int) < (xv.size : Int)) = true := by simp; omega
          go_wp2_with fail
          go_ret
          exact ⟨rfl, acc HBX.out HBW.out⟩
        have e1 : decide ((60 : Int) < (xv.size : Int)) = false := by simp; omega
        go_wp2_with fail
        go_roundg (gk - 1)
        case measure => omega
        case rel => exact ⟨i + 1, by omega, by omega, by go_num, HBW.out, fun j hj hji => by
          rcases Nat.lt_or_ge j i with z | z
          · exact HS.out j hj z
          · obtain rfl : j = i := by omega
            rw [HX.out]
            exact ⟨by show xk.size ≤ 60; omega, by show xv.size ≤ 60; omega⟩⟩
      · obtain rfl : n = i := by omega
        clear hig hi hlt
        obtain ⟨k, hk, hkn⟩ := place_bound at_ n hm
        go_upto_region 16 with (first
          | (go_at_call 10; (with_reducible refine (CF.out _ HB.out).mono ?_); rintro e w2 ⟨gs, gr, P, rfl, h2⟩; have H2 := Lib.hid h2; clear h2)
          | (go_at_call 22; (with_reducible refine (CIT.out _ _ _ H2.out).mono ?_); rintro e w3 ⟨A3, c3, rfl, r3, h3, b3⟩; have H3 := Lib.hid h3; have HR3 := Lib.hid r3; clear r3 h3 b3))
        obtain ⟨M, hM⟩ : ∃ M, ms.take k ++ (bk, bv) :: ms.drop k = M := ⟨_, rfl⟩
        have hMl : M.length = n + 1 := by
          rw [← hM, List.length_append, List.length_cons, List.length_take, List.length_drop, HN.out]; omega
        have hMs : ∀ x ∈ M, x.1.size ≤ maxLen ∧ x.2.size ≤ maxLen := fun x hx => by
          unfold maxLen
          rw [← hM] at hx
          rcases List.mem_append.1 hx with z | z
          · obtain ⟨j, hj, rfl⟩ := List.getElem_of_mem ((List.take_sublist _ _).subset z)
            have := HS.out j hj (by rw [← HN.out]; exact hj)
            omega
          · rcases List.mem_cons.1 z with z | z
            · subst z
              exact ⟨by show bk.size ≤ _; omega, by show bv.size ≤ _; omega⟩
            · obtain ⟨j, hj, rfl⟩ := List.getElem_of_mem ((List.drop_sublist _ _).subset z)
              have := HS.out j hj (by rw [← HN.out]; exact hj)
              omega
        have hMe : putsE 200 l M ≠ 0 := by rw [← hM]; exact puts_bad 200 l _ _ (bk, bv) HBAD.out
        obtain ⟨re, hre⟩ : ∃ r, putsE 200 l M = r := ⟨_, rfl⟩
        have hrb : (re != 0) = true := by rw [bne_iff_ne, ← hre]; exact hMe
        have CI : Hid (∀ w gs P A c, S1 V w (P ++ (Value.slice A (n + 1) c).ownBlock.toList) gs 200 l → w.ownsRow w3.heap.size 39 2 (.slice A (n + 1) c) (n + 1) (itemCells (ms.take k ++ (bk, bv) :: ms.drop k)) → Calls Try.prog 13 #[.pointer (some ⟨gs, 0, none⟩), .slice A (n + 1) c] w fun e w' => e = .returned (.int .i64 re) ∧ S1 V w' (P ++ (Value.slice A (n + 1) c).ownBlock.toList) gs 200 l ∧ Kp (P ++ (Value.slice A (n + 1) c).ownBlock.toList) w w') := fun w gs P A c h hr => by
          rw [hM] at hr
          have z := h.cin (ms := M) (by rw [hMl]; exact hr) (by rw [hMl]; exact fun q hq => List.mem_append_right _ (by simp [hq])) hMs hre (l2 := l) (by rw [inS, if_neg hMe])
          rwa [hMl] at z
        have HVC : Hid (∀ w, Below w3.heap.size w3 w → Below V.heap.size V w) := fun w h => acc H3.out.1 h
        clear hMl hMs hMe hre hM
        rcases A1 with _ | ⟨b, off, sp⟩
        · obtain rfl : c1 = 0 := hn rfl
          obtain rfl : n = 0 := by omega
          obtain rfl : k = 0 := by omega
          have hms : ms = [] := List.eq_nil_of_length_eq_zero HN.out
          have HBC : Hid (∀ w', Below w3.heap.size w3 w' → (w'.cell? ⟨W.heap.size, 0, none⟩ = some (.string bk) ∧ w'.cell? ⟨W.heap.size, 1, none⟩ = some (.string bv)) ∧ From w' 2 (.slice none 0 0) 0 (itemCells (ms.take 0)) ∧ From w' 2 (.slice none 0 0) 0 (itemCells (ms.drop 0))) := fun w' h =>
            ⟨⟨((HVB.out.below (HVC.out _ h)).v0), ((HVB.out.below (HVC.out _ h)).v1)⟩, .inl ⟨rfl, rfl, by rw [hms]; rfl⟩, .inl ⟨rfl, rfl, by rw [hms]; rfl⟩⟩
          clear hms
          refine wp_region_held_drew (S := (fun w' => w'.cell? ⟨W.heap.size, 0, none⟩ = some (.string bk) ∧ w'.cell? ⟨W.heap.size, 1, none⟩ = some (.string bv))) (by kernel_rfl) ?_ (fun hHeld => ?_)
          · exact (HBC.out _ (Below.refl _ _).drew).1
          refine wpAnyH_take (i := 0) (oi := ⟨_, _, _, _, _, _⟩) (v := ?_) rfl (by kernel_rfl) (by kernel_rfl) (by kernel_rfl) (fun _ _ _ h => h) (Or.inl ⟨by rfl, ?_⟩) (by assumption) ?_
          rotate_left
          · (intro wS hSw; (try dsimp only at hSw); go_simp <;> with_reducible rfl)
          try simp only [Act.put, List.setIfInBounds_toArray, List.set_cons_zero, List.set_cons_succ]
          refine wpAnyH_take (i := 1) (oi := ⟨_, _, _, _, _, _⟩) (v := ?_) rfl (by kernel_rfl) (by kernel_rfl) (by kernel_rfl) (fun _ _ _ h => h) (Or.inl ⟨by rfl, ?_⟩) (by assumption) ?_
          rotate_left
          · (intro wS hSw; (try dsimp only at hSw); go_simp <;> with_reducible rfl)
          try simp only [Act.put, List.setIfInBounds_toArray, List.set_cons_zero, List.set_cons_succ]
          refine wpAnyH_take (i := 2) (oi := ⟨_, _, _, _, _, _⟩) (v := ?_) rfl (by kernel_rfl) (by kernel_rfl) (by kernel_rfl) (fun _ _ _ h => h) (Or.inl ⟨by rfl, ?_⟩) (by assumption) ?_
          rotate_left
          · (intro wS hSw; (try dsimp only at hSw); go_simp <;> with_reducible rfl)
          try simp only [Act.put, List.setIfInBounds_toArray, List.set_cons_zero, List.set_cons_succ]
          refine wpAnyH_take (i := 4) (oi := ⟨_, _, _, _, _, _⟩) (v := ?_) rfl (by kernel_rfl) (by kernel_rfl) (by kernel_rfl) (fun _ _ _ h => h) (Or.inl ⟨by rfl, ?_⟩) (by assumption) ?_
          rotate_left
          · (intro wS hSw; (try dsimp only at hSw); go_simp <;> with_reducible rfl)
          try simp only [Act.put, List.setIfInBounds_toArray, List.set_cons_zero, List.set_cons_succ]
          refine wpAnyH_take (i := 7) (oi := ⟨_, _, _, _, _, _⟩) (v := ?_) rfl (by kernel_rfl) (by kernel_rfl) (by kernel_rfl) (fun _ _ _ h => h) (Or.inl ⟨by rfl, ?_⟩) (by assumption) ?_
          rotate_left
          · (intro wS hSw; (try dsimp only at hSw); go_simp <;> with_reducible rfl)
          try simp only [Act.put, List.setIfInBounds_toArray, List.set_cons_zero, List.set_cons_succ]
          refine wpAnyH_take (i := 8) (oi := ⟨_, _, _, _, _, _⟩) (v := ?_) rfl (by kernel_rfl) (by kernel_rfl) (by kernel_rfl) (fun _ _ _ h => h) (Or.inl ⟨by rfl, ?_⟩) (by assumption) ?_
          rotate_left
          · (intro wS hSw; (try dsimp only at hSw); go_simp <;> with_reducible rfl)
          try simp only [Act.put, List.setIfInBounds_toArray, List.set_cons_zero, List.set_cons_succ]
          refine wpAnyH_take (i := 9) (oi := ⟨_, _, _, _, _, _⟩) (v := ?_) rfl (by kernel_rfl) (by kernel_rfl) (by kernel_rfl) (fun _ _ _ h => h) (Or.inl ⟨by rfl, ?_⟩) (by assumption) ?_
          rotate_left
          · (intro wS hSw; (try dsimp only at hSw); go_simp <;> with_reducible rfl)
          try simp only [Act.put, List.setIfInBounds_toArray, List.set_cons_zero, List.set_cons_succ]
          refine wpAnyH_ready (rs := [3, 5]) (by kernel_rfl) (by simp) ?_
          refine AllReadyH.cons (o := ⟨_, _, _, _, _, _⟩) rfl (fun K hK => ?_) (AllReadyH.cons (o := ⟨_, _, _, _, _, _⟩) rfl (fun K hK => ?_) AllReadyH.nil)
          · refine step_append_any rfl (.const (.slice none 0 0)) (.tmp 92) 22 rfl w3.heap.size 39 i0 (.agg #[.string ⟨#[]⟩, .string ⟨#[]⟩]) 2 32 Try.underlying22 hi0 hz0 hs0 hb0 rfl (by decide) (.slice none 0 0) (0) ([]) (by simp [Act.eval]) (World.ownsRow_nil _ _ _ _) (.slice none 0 0) (0) (itemCells (ms.take 0)) (by simp [Act.eval]) ((HBC.out _ (Below.refl _ _).drew).2.1) (items_one _) (by unfold maxLen; omega) (by omega) (Nat.le_refl _) ?_
            intro A5 c5 w5 ho5 hg5 hs5
            have hb5 : Below w3.heap.size w3 w5 := (Below.refl _ _).drew.grown hg5 (Nat.le_refl _) (fun q hq => by cases hq)
            have HB5 := Lib.hid hb5
            have HO5 := Lib.hid ho5
            have HOS : Hid (∀ q, (Value.slice A5 (0 + 0) c5).ownBlock = some q → w3.heap.size ≤ q ∧ True) := fun q hq => ⟨(ho5.lt q hq).1, trivial⟩
            clear ho5 hg5 hs5 hb5
            refine hK.out _ _ ((HBC.out _ (HB5.out)).1) (fun hHeld => ?_)
            clear hK K
            try simp only [Act.put, List.setIfInBounds_toArray, List.set_cons_zero, List.set_cons_succ]
            refine wpAnyH_ready (rs := [5]) (by kernel_rfl) (by simp) ?_
            refine AllReadyH.cons (o := ⟨_, _, _, _, _, _⟩) rfl (fun K hK => ?_) AllReadyH.nil
            go_simp
            refine hK.out _ _ ((HBC.out _ (HB5.out.alloc HB5.out.size _)).1) (fun hHeld => ?_)
            clear hK K
            try simp only [Act.put, List.setIfInBounds_toArray, List.set_cons_zero, List.set_cons_succ]
            refine wpAnyH_ready (rs := [6]) (by kernel_rfl) (by simp) ?_
            refine AllReadyH.cons (o := ⟨_, _, _, _, _, _⟩) rfl (fun K hK => ?_) AllReadyH.nil
            refine step_append_any rfl (.tmp 93) (.tmp 95) 22 rfl w3.heap.size 39 i0 (.agg #[.string ⟨#[]⟩, .string ⟨#[]⟩]) 2 32 Try.underlying22 hi0 hz0 hs0 hb0 rfl (by decide) (.slice A5 (0 + 0) c5) (0 + 0) ([] ++ itemCells (ms.take 0)) (by simp [Act.eval]) (HO5.out.alloc _) (.slice (some ⟨w5.heap.size, 0, none⟩) 1 1) (1) (itemCells [(bk, bv)]) (by simp [Act.eval]) (item_src _ _ bk bv (heap_alloc_new _ _)) (items_one _) (by unfold maxLen; omega) (by omega) ((HB5.out.alloc HB5.out.size _).size) ?_
            intro A6 c6 w6 ho6 hg6 hs6
            have HB6 : Hid (Below w3.heap.size w3 w6) := ((HB5.out.alloc HB5.out.size _)).grown hg6 ((HB5.out.alloc HB5.out.size _)).size (fun q hq => (HOS.out q hq).1)
            have HO6 := Lib.hid ho6
            have HS6 : Hid (∀ q, (Value.slice A6 (0 + 0 + 1) c6).ownBlock = some q → w3.heap.size ≤ q) := fun q hq => (ho6.lt q hq).1
            clear ho6 hg6 hs6
            refine hK.out _ _ ((HBC.out _ (HB6.out)).1) (fun hHeld => ?_)
            clear hK K
            try simp only [Act.put, List.setIfInBounds_toArray, List.set_cons_zero, List.set_cons_succ]
            refine wpAnyH_ready (rs := [10]) (by kernel_rfl) (by simp) ?_
            refine AllReadyH.cons (o := ⟨_, _, _, _, _, _⟩) rfl (fun K hK => ?_) AllReadyH.nil
            refine step_append_any rfl (.tmp 96) (.tmp 99) 22 rfl w3.heap.size 39 i0 (.agg #[.string ⟨#[]⟩, .string ⟨#[]⟩]) 2 32 Try.underlying22 hi0 hz0 hs0 hb0 rfl (by decide) (.slice A6 (0 + 0 + 1) c6) (0 + 0 + 1) ([] ++ itemCells (ms.take 0) ++ itemCells [(bk, bv)]) (by simp [Act.eval]) (HO6.out) (.slice none 0 0) (0) (itemCells (ms.drop 0)) (by simp [Act.eval]) ((HBC.out _ HB6.out).2.2) (items_one _) (by unfold maxLen; omega) (by omega) (HB6.out.size) ?_
            intro A7 c7 w7 ho7 hg7 hs7
            have HB7 : Hid (Below w3.heap.size w3 w7) := HB6.out.grown hg7 HB6.out.size (fun q hq => HS6.out q hq)
            rw [show 0 + 0 + 1 + (0) = 0 + 1 by omega] at ho7 ⊢
            have HO7 : Hid (w7.ownsRow w3.heap.size 39 2 (.slice A7 (0 + 1) c7) (0 + 1) (itemCells (ms.take 0 ++ (bk, bv) :: ms.drop 0))) := by
              have z := ho7
              rw [List.nil_append, ← itemCells_append, ← itemCells_append, List.append_assoc] at z
              exact z
            clear ho7 hg7 hs7
            refine hK.out _ _ ((HBC.out _ (HB7.out)).1) (fun hHeld => ?_)
            clear hK K
            try simp only [Act.put, List.setIfInBounds_toArray, List.set_cons_zero, List.set_cons_succ]
            refine wpAnyH_take (i := 11) (oi := ⟨_, _, _, _, _, _⟩) (v := ?_) rfl (by kernel_rfl) (by kernel_rfl) (by kernel_rfl) (fun _ _ _ h => h) (Or.inl ⟨by rfl, ?_⟩) (by assumption) ?_
            rotate_left
            · (intro wS hSw; (try dsimp only at hSw); go_simp <;> with_reducible rfl)
            try simp only [Act.put, List.setIfInBounds_toArray, List.set_cons_zero, List.set_cons_succ]
            refine wpAnyH_done (by kernel_rfl) ?_ _
            have HS7 : Hid (S1 V w7 (P ++ (Value.slice A3 nl c3).ownBlock.toList ++ (Value.slice A7 (0 + 1) c7).ownBlock.toList) gs 200 l) := H3.out.keep HB7.out HO7.out
            have HR7 := Lib.hid (own_keep HR3.out HB7.out)
            go_wp2_with (first
              | (go_at_call 13; (with_reducible refine (CI.out _ _ _ _ _ HS7.out HO7.out).mono ?_); rintro e w8 ⟨rfl, h8, k8⟩; have HR8 := Lib.hid (k8.row HR7.out (fun q hq => List.mem_append_left _ (List.mem_append_right _ (by simp [hq])))); have HS8 := Lib.hid h8; clear h8 k8)
              | (go_at_call 22; (with_reducible refine (CIT.out _ _ _ HS8.out).mono ?_); rintro e w9 ⟨A9, c9, rfl, r9, h9, b9⟩; have HR9 := Lib.hid (own_keep HR8.out b9); have HQ9 := Lib.hid r9; have HS9 := Lib.hid h9; clear r9 h9 b9)
              | (go_at_call 19; (with_reducible refine (CS.out _ _ _ _ _ HQ9.out HR9.out).mono ?_); rintro e w10 ⟨rfl, k10, rfl⟩))
            go_ret
            exact ⟨rfl, acc HBX.out (acc HS9.out.1 (((Touch.refl [] w9).drewN k10).below (Nat.le_refl _) (by simp)))⟩
          · go_simp
            refine hK.out _ _ ((HBC.out _ ((Below.refl _ _).drew.alloc (Nat.le_refl _) _)).1) (fun hHeld => ?_)
            clear hK K
            try simp only [Act.put, List.setIfInBounds_toArray, List.set_cons_zero, List.set_cons_succ]
            refine wpAnyH_ready (rs := [3]) (by kernel_rfl) (by simp) ?_
            refine AllReadyH.cons (o := ⟨_, _, _, _, _, _⟩) rfl (fun K hK => ?_) AllReadyH.nil
            refine step_append_any rfl (.const (.slice none 0 0)) (.tmp 92) 22 rfl w3.heap.size 39 i0 (.agg #[.string ⟨#[]⟩, .string ⟨#[]⟩]) 2 32 Try.underlying22 hi0 hz0 hs0 hb0 rfl (by decide) (.slice none 0 0) (0) ([]) (by simp [Act.eval]) (World.ownsRow_nil _ _ _ _) (.slice none 0 0) (0) (itemCells (ms.take 0)) (by simp [Act.eval]) ((HBC.out _ ((Below.refl _ _).drew.alloc (Nat.le_refl _) _)).2.1) (items_one _) (by unfold maxLen; omega) (by omega) ((by simp)) ?_
            intro A5 c5 w5 ho5 hg5 hs5
            have hb5 : Below w3.heap.size w3 w5 := ((Below.refl _ _).drew.alloc (Nat.le_refl _) _).grown hg5 (by simp) (fun q hq => by cases hq)
            have hbl : w5.heap[w3.heap.size]? = some (.cells #[.string bk, .string bv] 39 (0, 0)) := (hg5.block _ (by simp) (by simp [Value.ownBlock])).trans (heap_alloc_new w3.drew _)
            have HBL := Lib.hid hbl
            have HB5 := Lib.hid hb5
            have HO5 := Lib.hid ho5
            have HOS : Hid (∀ q, (Value.slice A5 (0 + 0) c5).ownBlock = some q → w3.heap.size ≤ q ∧ True) := fun q hq => ⟨(ho5.lt q hq).1, trivial⟩
            clear ho5 hg5 hs5 hb5 hbl
            refine hK.out _ _ ((HBC.out _ (HB5.out)).1) (fun hHeld => ?_)
            clear hK K
            try simp only [Act.put, List.setIfInBounds_toArray, List.set_cons_zero, List.set_cons_succ]
            refine wpAnyH_ready (rs := [6]) (by kernel_rfl) (by simp) ?_
            refine AllReadyH.cons (o := ⟨_, _, _, _, _, _⟩) rfl (fun K hK => ?_) AllReadyH.nil
            refine step_append_any rfl (.tmp 93) (.tmp 95) 22 rfl w3.heap.size 39 i0 (.agg #[.string ⟨#[]⟩, .string ⟨#[]⟩]) 2 32 Try.underlying22 hi0 hz0 hs0 hb0 rfl (by decide) (.slice A5 (0 + 0) c5) (0 + 0) ([] ++ itemCells (ms.take 0)) (by simp [Act.eval]) (HO5.out) (.slice (some ⟨w3.heap.size, 0, none⟩) 1 1) (1) (itemCells [(bk, bv)]) (by simp [Act.eval]) (item_src _ _ bk bv HBL.out) (items_one _) (by unfold maxLen; omega) (by omega) (HB5.out.size) ?_
            intro A6 c6 w6 ho6 hg6 hs6
            have HB6 : Hid (Below w3.heap.size w3 w6) := (HB5.out).grown hg6 (HB5.out).size (fun q hq => (HOS.out q hq).1)
            have HO6 := Lib.hid ho6
            have HS6 : Hid (∀ q, (Value.slice A6 (0 + 0 + 1) c6).ownBlock = some q → w3.heap.size ≤ q) := fun q hq => (ho6.lt q hq).1
            clear ho6 hg6 hs6
            refine hK.out _ _ ((HBC.out _ (HB6.out)).1) (fun hHeld => ?_)
            clear hK K
            try simp only [Act.put, List.setIfInBounds_toArray, List.set_cons_zero, List.set_cons_succ]
            refine wpAnyH_ready (rs := [10]) (by kernel_rfl) (by simp) ?_
            refine AllReadyH.cons (o := ⟨_, _, _, _, _, _⟩) rfl (fun K hK => ?_) AllReadyH.nil
            refine step_append_any rfl (.tmp 96) (.tmp 99) 22 rfl w3.heap.size 39 i0 (.agg #[.string ⟨#[]⟩, .string ⟨#[]⟩]) 2 32 Try.underlying22 hi0 hz0 hs0 hb0 rfl (by decide) (.slice A6 (0 + 0 + 1) c6) (0 + 0 + 1) ([] ++ itemCells (ms.take 0) ++ itemCells [(bk, bv)]) (by simp [Act.eval]) (HO6.out) (.slice none 0 0) (0) (itemCells (ms.drop 0)) (by simp [Act.eval]) ((HBC.out _ HB6.out).2.2) (items_one _) (by unfold maxLen; omega) (by omega) (HB6.out.size) ?_
            intro A7 c7 w7 ho7 hg7 hs7
            have HB7 : Hid (Below w3.heap.size w3 w7) := HB6.out.grown hg7 HB6.out.size (fun q hq => HS6.out q hq)
            rw [show 0 + 0 + 1 + (0) = 0 + 1 by omega] at ho7 ⊢
            have HO7 : Hid (w7.ownsRow w3.heap.size 39 2 (.slice A7 (0 + 1) c7) (0 + 1) (itemCells (ms.take 0 ++ (bk, bv) :: ms.drop 0))) := by
              have z := ho7
              rw [List.nil_append, ← itemCells_append, ← itemCells_append, List.append_assoc] at z
              exact z
            clear ho7 hg7 hs7
            refine hK.out _ _ ((HBC.out _ (HB7.out)).1) (fun hHeld => ?_)
            clear hK K
            try simp only [Act.put, List.setIfInBounds_toArray, List.set_cons_zero, List.set_cons_succ]
            refine wpAnyH_take (i := 11) (oi := ⟨_, _, _, _, _, _⟩) (v := ?_) rfl (by kernel_rfl) (by kernel_rfl) (by kernel_rfl) (fun _ _ _ h => h) (Or.inl ⟨by rfl, ?_⟩) (by assumption) ?_
            rotate_left
            · (intro wS hSw; (try dsimp only at hSw); go_simp <;> with_reducible rfl)
            try simp only [Act.put, List.setIfInBounds_toArray, List.set_cons_zero, List.set_cons_succ]
            refine wpAnyH_done (by kernel_rfl) ?_ _
            have HS7 : Hid (S1 V w7 (P ++ (Value.slice A3 nl c3).ownBlock.toList ++ (Value.slice A7 (0 + 1) c7).ownBlock.toList) gs 200 l) := H3.out.keep HB7.out HO7.out
            have HR7 := Lib.hid (own_keep HR3.out HB7.out)
            go_wp2_with (first
              | (go_at_call 13; (with_reducible refine (CI.out _ _ _ _ _ HS7.out HO7.out).mono ?_); rintro e w8 ⟨rfl, h8, k8⟩; have HR8 := Lib.hid (k8.row HR7.out (fun q hq => List.mem_append_left _ (List.mem_append_right _ (by simp [hq])))); have HS8 := Lib.hid h8; clear h8 k8)
              | (go_at_call 22; (with_reducible refine (CIT.out _ _ _ HS8.out).mono ?_); rintro e w9 ⟨A9, c9, rfl, r9, h9, b9⟩; have HR9 := Lib.hid (own_keep HR8.out b9); have HQ9 := Lib.hid r9; have HS9 := Lib.hid h9; clear r9 h9 b9)
              | (go_at_call 19; (with_reducible refine (CS.out _ _ _ _ _ HQ9.out HR9.out).mono ?_); rintro e w10 ⟨rfl, k10, rfl⟩))
            go_ret
            exact ⟨rfl, acc HBX.out (acc HS9.out.1 (((Touch.refl [] w9).drewN k10).below (Nat.le_refl _) (by simp)))⟩
        · have hMM : ∀ w, Below w3.heap.size w3 w → ∀ i (h : i < ms.length), (⟨b, off, sp⟩ : Addr) = ⟨b, off, none⟩ ∧ w.cell? ⟨b, off + i * 2, none⟩ = some (.string (ms[i]).1) ∧ w.cell? ⟨b, off + i * 2 + 1, none⟩ = some (.string (ms[i]).2) := fun w h i hi => by
            obtain ⟨b', o', z⟩ := HMV.out.below (HVC.out _ h)
            obtain ⟨z1, _, z3, z4⟩ := z i hi
            injection z1 with z1
            injection z1 with e1 e2 e3
            subst e1 e2 e3
            exact ⟨rfl, z3, z4⟩
          have HBF : Hid (∀ w', Below w3.heap.size w3 w' → (w'.cell? ⟨W.heap.size, 0, none⟩ = some (.string bk) ∧ w'.cell? ⟨W.heap.size, 1, none⟩ = some (.string bv)) ∧ From w' 2 (.slice (some ⟨b, off, sp⟩) k c1) k (itemCells (ms.take k)) ∧ (∀ c, From w' 2 (.slice (some ((⟨b, off, sp⟩ : Addr).add (k * 2))) (n - k) c) (n - k) (itemCells (ms.drop k)))) := fun w' h =>
            ⟨⟨((HVB.out.below (HVC.out _ h)).v0), ((HVB.out.below (HVC.out _ h)).v1)⟩, from_take (by rw [HN.out]; exact hkn) (hMM w' h), fun c => by
              have z := from_drop (c := c) (k := k) (by rw [HN.out]; exact hkn) (hMM w' h)
              rwa [HN.out] at z⟩
          clear hMM
          have hkc : k ≤ c1 := by omega
          by_cases hck : c1 - k = 0
          · have hnk : n - k = 0 := by omega
            have HBC : Hid (∀ w', Below w3.heap.size w3 w' → (w'.cell? ⟨W.heap.size, 0, none⟩ = some (.string bk) ∧ w'.cell? ⟨W.heap.size, 1, none⟩ = some (.string bv)) ∧ From w' 2 (.slice (some ⟨b, off, sp⟩) k c1) k (itemCells (ms.take k)) ∧ From w' 2 (.slice (some ⟨b, off, sp⟩) 0 0) 0 (itemCells (ms.drop k))) := fun w' h => ⟨(HBF.out w' h).1, (HBF.out w' h).2.1, .inr ⟨_, _, rfl, by rw [itemCells_length, List.length_drop, HN.out, hnk], fun j u hj => by
              have := (List.getElem?_eq_some_iff.1 hj).1
              rw [itemCells_length, List.length_drop, HN.out, hnk] at this
              omega⟩⟩
            refine wp_region_held_drew (S := (fun w' => w'.cell? ⟨W.heap.size, 0, none⟩ = some (.string bk) ∧ w'.cell? ⟨W.heap.size, 1, none⟩ = some (.string bv))) (by kernel_rfl) ?_ (fun hHeld => ?_)
            · exact (HBC.out _ (Below.refl _ _).drew).1
            refine wpAnyH_take (i := 0) (oi := ⟨_, _, _, _, _, _⟩) (v := ?_) rfl (by kernel_rfl) (by kernel_rfl) (by kernel_rfl) (fun _ _ _ h => h) (Or.inl ⟨by rfl, ?_⟩) (by assumption) ?_
            rotate_left
            · (intro wS hSw; (try dsimp only at hSw); go_simp <;> with_reducible rfl)
            try simp only [Act.put, List.setIfInBounds_toArray, List.set_cons_zero, List.set_cons_succ]
            refine wpAnyH_take (i := 1) (oi := ⟨_, _, _, _, _, _⟩) (v := ?_) rfl (by kernel_rfl) (by kernel_rfl) (by kernel_rfl) (fun _ _ _ h => h) (Or.inl ⟨by rfl, ?_⟩) (by assumption) ?_
            rotate_left
            · (intro wS hSw; (try dsimp only at hSw); go_simp <;> with_reducible rfl)
            try simp only [Act.put, List.setIfInBounds_toArray, List.set_cons_zero, List.set_cons_succ]
            refine wpAnyH_take (i := 2) (oi := ⟨_, _, _, _, _, _⟩) (v := ?_) rfl (by kernel_rfl) (by kernel_rfl) (by kernel_rfl) (fun _ _ _ h => h) (Or.inl ⟨by rfl, ?_⟩) (by assumption) ?_
            rotate_left
            · (intro wS hSw; (try dsimp only at hSw); go_simp <;> with_reducible rfl)
            try simp only [Act.put, List.setIfInBounds_toArray, List.set_cons_zero, List.set_cons_succ]
            refine wpAnyH_take (i := 4) (oi := ⟨_, _, _, _, _, _⟩) (v := ?_) rfl (by kernel_rfl) (by kernel_rfl) (by kernel_rfl) (fun _ _ _ h => h) (Or.inl ⟨by rfl, ?_⟩) (by assumption) ?_
            rotate_left
            · (intro wS hSw; (try dsimp only at hSw); go_simp <;> with_reducible rfl)
            try simp only [Act.put, List.setIfInBounds_toArray, List.set_cons_zero, List.set_cons_succ]
            refine wpAnyH_take (i := 7) (oi := ⟨_, _, _, _, _, _⟩) (v := ?_) rfl (by kernel_rfl) (by kernel_rfl) (by kernel_rfl) (fun _ _ _ h => h) (Or.inl ⟨by rfl, ?_⟩) (by assumption) ?_
            rotate_left
            · (intro wS hSw; (try dsimp only at hSw); go_simp <;> with_reducible rfl)
            try simp only [Act.put, List.setIfInBounds_toArray, List.set_cons_zero, List.set_cons_succ]
            refine wpAnyH_take (i := 8) (oi := ⟨_, _, _, _, _, _⟩) (v := ?_) rfl (by kernel_rfl) (by kernel_rfl) (by kernel_rfl) (fun _ _ _ h => h) (Or.inl ⟨by rfl, ?_⟩) (by assumption) ?_
            rotate_left
            · (intro wS hSw; (try dsimp only at hSw); go_simp <;> with_reducible rfl)
            try simp only [Act.put, List.setIfInBounds_toArray, List.set_cons_zero, List.set_cons_succ]
            refine wpAnyH_take (i := 9) (oi := ⟨_, _, _, _, _, _⟩) (v := ?_) rfl (by kernel_rfl) (by kernel_rfl) (by kernel_rfl) (fun _ _ _ h => h) (Or.inl ⟨by rfl, ?_⟩) (by assumption) ?_
            rotate_left
            · (intro wS hSw; (try dsimp only at hSw); go_simp <;> with_reducible rfl)
            try simp only [Act.put, List.setIfInBounds_toArray, List.set_cons_zero, List.set_cons_succ]
            refine wpAnyH_ready (rs := [3, 5]) (by kernel_rfl) (by simp) ?_
            refine AllReadyH.cons (o := ⟨_, _, _, _, _, _⟩) rfl (fun K hK => ?_) (AllReadyH.cons (o := ⟨_, _, _, _, _, _⟩) rfl (fun K hK => ?_) AllReadyH.nil)
            · refine step_append_any rfl (.const (.slice none 0 0)) (.tmp 92) 22 rfl w3.heap.size 39 i0 (.agg #[.string ⟨#[]⟩, .string ⟨#[]⟩]) 2 32 Try.underlying22 hi0 hz0 hs0 hb0 rfl (by decide) (.slice none 0 0) (0) ([]) (by simp [Act.eval]) (World.ownsRow_nil _ _ _ _) (.slice (some ⟨b, off, sp⟩) k c1) (k) (itemCells (ms.take k)) (by simp [Act.eval]) ((HBC.out _ (Below.refl _ _).drew).2.1) (items_one _) (by unfold maxLen; omega) (by omega) (Nat.le_refl _) ?_
              intro A5 c5 w5 ho5 hg5 hs5
              have hb5 : Below w3.heap.size w3 w5 := (Below.refl _ _).drew.grown hg5 (Nat.le_refl _) (fun q hq => by cases hq)
              have HB5 := Lib.hid hb5
              have HO5 := Lib.hid ho5
              have HOS : Hid (∀ q, (Value.slice A5 (0 + k) c5).ownBlock = some q → w3.heap.size ≤ q ∧ True) := fun q hq => ⟨(ho5.lt q hq).1, trivial⟩
              clear ho5 hg5 hs5 hb5
              refine hK.out _ _ ((HBC.out _ (HB5.out)).1) (fun hHeld => ?_)
              clear hK K
              try simp only [Act.put, List.setIfInBounds_toArray, List.set_cons_zero, List.set_cons_succ]
              refine wpAnyH_ready (rs := [5]) (by kernel_rfl) (by simp) ?_
              refine AllReadyH.cons (o := ⟨_, _, _, _, _, _⟩) rfl (fun K hK => ?_) AllReadyH.nil
              go_simp
              refine hK.out _ _ ((HBC.out _ (HB5.out.alloc HB5.out.size _)).1) (fun hHeld => ?_)
              clear hK K
              try simp only [Act.put, List.setIfInBounds_toArray, List.set_cons_zero, List.set_cons_succ]
              refine wpAnyH_ready (rs := [6]) (by kernel_rfl) (by simp) ?_
              refine AllReadyH.cons (o := ⟨_, _, _, _, _, _⟩) rfl (fun K hK => ?_) AllReadyH.nil
              refine step_append_any rfl (.tmp 93) (.tmp 95) 22 rfl w3.heap.size 39 i0 (.agg #[.string ⟨#[]⟩, .string ⟨#[]⟩]) 2 32 Try.underlying22 hi0 hz0 hs0 hb0 rfl (by decide) (.slice A5 (0 + k) c5) (0 + k) ([] ++ itemCells (ms.take k)) (by simp [Act.eval]) (HO5.out.alloc _) (.slice (some ⟨w5.heap.size, 0, none⟩) 1 1) (1) (itemCells [(bk, bv)]) (by simp [Act.eval]) (item_src _ _ bk bv (heap_alloc_new _ _)) (items_one _) (by unfold maxLen; omega) (by omega) ((HB5.out.alloc HB5.out.size _).size) ?_
              intro A6 c6 w6 ho6 hg6 hs6
              have HB6 : Hid (Below w3.heap.size w3 w6) := ((HB5.out.alloc HB5.out.size _)).grown hg6 ((HB5.out.alloc HB5.out.size _)).size (fun q hq => (HOS.out q hq).1)
              have HO6 := Lib.hid ho6
              have HS6 : Hid (∀ q, (Value.slice A6 (0 + k + 1) c6).ownBlock = some q → w3.heap.size ≤ q) := fun q hq => (ho6.lt q hq).1
              clear ho6 hg6 hs6
              refine hK.out _ _ ((HBC.out _ (HB6.out)).1) (fun hHeld => ?_)
              clear hK K
              try simp only [Act.put, List.setIfInBounds_toArray, List.set_cons_zero, List.set_cons_succ]
              refine wpAnyH_ready (rs := [10]) (by kernel_rfl) (by simp) ?_
              refine AllReadyH.cons (o := ⟨_, _, _, _, _, _⟩) rfl (fun K hK => ?_) AllReadyH.nil
              refine step_append_any rfl (.tmp 96) (.tmp 99) 22 rfl w3.heap.size 39 i0 (.agg #[.string ⟨#[]⟩, .string ⟨#[]⟩]) 2 32 Try.underlying22 hi0 hz0 hs0 hb0 rfl (by decide) (.slice A6 (0 + k + 1) c6) (0 + k + 1) ([] ++ itemCells (ms.take k) ++ itemCells [(bk, bv)]) (by simp [Act.eval]) (HO6.out) (.slice (some ⟨b, off, sp⟩) 0 0) (0) (itemCells (ms.drop k)) (by simp [Act.eval]; intro h; omega) ((HBC.out _ HB6.out).2.2) (items_one _) (by unfold maxLen; omega) (by omega) (HB6.out.size) ?_
              intro A7 c7 w7 ho7 hg7 hs7
              have HB7 : Hid (Below w3.heap.size w3 w7) := HB6.out.grown hg7 HB6.out.size (fun q hq => HS6.out q hq)
              rw [show 0 + k + 1 + (0) = n + 1 by omega] at ho7 ⊢
              have HO7 : Hid (w7.ownsRow w3.heap.size 39 2 (.slice A7 (n + 1) c7) (n + 1) (itemCells (ms.take k ++ (bk, bv) :: ms.drop k))) := by
                have z := ho7
                rw [List.nil_append, ← itemCells_append, ← itemCells_append, List.append_assoc] at z
                exact z
              clear ho7 hg7 hs7
              refine hK.out _ _ ((HBC.out _ (HB7.out)).1) (fun hHeld => ?_)
              clear hK K
              try simp only [Act.put, List.setIfInBounds_toArray, List.set_cons_zero, List.set_cons_succ]
              refine wpAnyH_take (i := 11) (oi := ⟨_, _, _, _, _, _⟩) (v := ?_) rfl (by kernel_rfl) (by kernel_rfl) (by kernel_rfl) (fun _ _ _ h => h) (Or.inl ⟨by rfl, ?_⟩) (by assumption) ?_
              rotate_left
              · (intro wS hSw; (try dsimp only at hSw); go_simp <;> with_reducible rfl)
              try simp only [Act.put, List.setIfInBounds_toArray, List.set_cons_zero, List.set_cons_succ]
              refine wpAnyH_done (by kernel_rfl) ?_ _
              have HS7 : Hid (S1 V w7 (P ++ (Value.slice A3 nl c3).ownBlock.toList ++ (Value.slice A7 (n + 1) c7).ownBlock.toList) gs 200 l) := H3.out.keep HB7.out HO7.out
              have HR7 := Lib.hid (own_keep HR3.out HB7.out)
              go_wp2_with (first
                | (go_at_call 13; (with_reducible refine (CI.out _ _ _ _ _ HS7.out HO7.out).mono ?_); rintro e w8 ⟨rfl, h8, k8⟩; have HR8 := Lib.hid (k8.row HR7.out (fun q hq => List.mem_append_left _ (List.mem_append_right _ (by simp [hq])))); have HS8 := Lib.hid h8; clear h8 k8)
                | (go_at_call 22; (with_reducible refine (CIT.out _ _ _ HS8.out).mono ?_); rintro e w9 ⟨A9, c9, rfl, r9, h9, b9⟩; have HR9 := Lib.hid (own_keep HR8.out b9); have HQ9 := Lib.hid r9; have HS9 := Lib.hid h9; clear r9 h9 b9)
                | (go_at_call 19; (with_reducible refine (CS.out _ _ _ _ _ HQ9.out HR9.out).mono ?_); rintro e w10 ⟨rfl, k10, rfl⟩))
              go_ret
              exact ⟨rfl, acc HBX.out (acc HS9.out.1 (((Touch.refl [] w9).drewN k10).below (Nat.le_refl _) (by simp)))⟩
            · go_simp
              refine hK.out _ _ ((HBC.out _ ((Below.refl _ _).drew.alloc (Nat.le_refl _) _)).1) (fun hHeld => ?_)
              clear hK K
              try simp only [Act.put, List.setIfInBounds_toArray, List.set_cons_zero, List.set_cons_succ]
              refine wpAnyH_ready (rs := [3]) (by kernel_rfl) (by simp) ?_
              refine AllReadyH.cons (o := ⟨_, _, _, _, _, _⟩) rfl (fun K hK => ?_) AllReadyH.nil
              refine step_append_any rfl (.const (.slice none 0 0)) (.tmp 92) 22 rfl w3.heap.size 39 i0 (.agg #[.string ⟨#[]⟩, .string ⟨#[]⟩]) 2 32 Try.underlying22 hi0 hz0 hs0 hb0 rfl (by decide) (.slice none 0 0) (0) ([]) (by simp [Act.eval]) (World.ownsRow_nil _ _ _ _) (.slice (some ⟨b, off, sp⟩) k c1) (k) (itemCells (ms.take k)) (by simp [Act.eval]) ((HBC.out _ ((Below.refl _ _).drew.alloc (Nat.le_refl _) _)).2.1) (items_one _) (by unfold maxLen; omega) (by omega) ((by simp)) ?_
              intro A5 c5 w5 ho5 hg5 hs5
              have hb5 : Below w3.heap.size w3 w5 := ((Below.refl _ _).drew.alloc (Nat.le_refl _) _).grown hg5 (by simp) (fun q hq => by cases hq)
              have hbl : w5.heap[w3.heap.size]? = some (.cells #[.string bk, .string bv] 39 (0, 0)) := (hg5.block _ (by simp) (by simp [Value.ownBlock])).trans (heap_alloc_new w3.drew _)
              have HBL := Lib.hid hbl
              have HB5 := Lib.hid hb5
              have HO5 := Lib.hid ho5
              have HOS : Hid (∀ q, (Value.slice A5 (0 + k) c5).ownBlock = some q → w3.heap.size ≤ q ∧ True) := fun q hq => ⟨(ho5.lt q hq).1, trivial⟩
              clear ho5 hg5 hs5 hb5 hbl
              refine hK.out _ _ ((HBC.out _ (HB5.out)).1) (fun hHeld => ?_)
              clear hK K
              try simp only [Act.put, List.setIfInBounds_toArray, List.set_cons_zero, List.set_cons_succ]
              refine wpAnyH_ready (rs := [6]) (by kernel_rfl) (by simp) ?_
              refine AllReadyH.cons (o := ⟨_, _, _, _, _, _⟩) rfl (fun K hK => ?_) AllReadyH.nil
              refine step_append_any rfl (.tmp 93) (.tmp 95) 22 rfl w3.heap.size 39 i0 (.agg #[.string ⟨#[]⟩, .string ⟨#[]⟩]) 2 32 Try.underlying22 hi0 hz0 hs0 hb0 rfl (by decide) (.slice A5 (0 + k) c5) (0 + k) ([] ++ itemCells (ms.take k)) (by simp [Act.eval]) (HO5.out) (.slice (some ⟨w3.heap.size, 0, none⟩) 1 1) (1) (itemCells [(bk, bv)]) (by simp [Act.eval]) (item_src _ _ bk bv HBL.out) (items_one _) (by unfold maxLen; omega) (by omega) (HB5.out.size) ?_
              intro A6 c6 w6 ho6 hg6 hs6
              have HB6 : Hid (Below w3.heap.size w3 w6) := (HB5.out).grown hg6 (HB5.out).size (fun q hq => (HOS.out q hq).1)
              have HO6 := Lib.hid ho6
              have HS6 : Hid (∀ q, (Value.slice A6 (0 + k + 1) c6).ownBlock = some q → w3.heap.size ≤ q) := fun q hq => (ho6.lt q hq).1
              clear ho6 hg6 hs6
              refine hK.out _ _ ((HBC.out _ (HB6.out)).1) (fun hHeld => ?_)
              clear hK K
              try simp only [Act.put, List.setIfInBounds_toArray, List.set_cons_zero, List.set_cons_succ]
              refine wpAnyH_ready (rs := [10]) (by kernel_rfl) (by simp) ?_
              refine AllReadyH.cons (o := ⟨_, _, _, _, _, _⟩) rfl (fun K hK => ?_) AllReadyH.nil
              refine step_append_any rfl (.tmp 96) (.tmp 99) 22 rfl w3.heap.size 39 i0 (.agg #[.string ⟨#[]⟩, .string ⟨#[]⟩]) 2 32 Try.underlying22 hi0 hz0 hs0 hb0 rfl (by decide) (.slice A6 (0 + k + 1) c6) (0 + k + 1) ([] ++ itemCells (ms.take k) ++ itemCells [(bk, bv)]) (by simp [Act.eval]) (HO6.out) (.slice (some ⟨b, off, sp⟩) 0 0) (0) (itemCells (ms.drop k)) (by simp [Act.eval]; intro h; omega) ((HBC.out _ HB6.out).2.2) (items_one _) (by unfold maxLen; omega) (by omega) (HB6.out.size) ?_
              intro A7 c7 w7 ho7 hg7 hs7
              have HB7 : Hid (Below w3.heap.size w3 w7) := HB6.out.grown hg7 HB6.out.size (fun q hq => HS6.out q hq)
              rw [show 0 + k + 1 + (0) = n + 1 by omega] at ho7 ⊢
              have HO7 : Hid (w7.ownsRow w3.heap.size 39 2 (.slice A7 (n + 1) c7) (n + 1) (itemCells (ms.take k ++ (bk, bv) :: ms.drop k))) := by
                have z := ho7
                rw [List.nil_append, ← itemCells_append, ← itemCells_append, List.append_assoc] at z
                exact z
              clear ho7 hg7 hs7
              refine hK.out _ _ ((HBC.out _ (HB7.out)).1) (fun hHeld => ?_)
              clear hK K
              try simp only [Act.put, List.setIfInBounds_toArray, List.set_cons_zero, List.set_cons_succ]
              refine wpAnyH_take (i := 11) (oi := ⟨_, _, _, _, _, _⟩) (v := ?_) rfl (by kernel_rfl) (by kernel_rfl) (by kernel_rfl) (fun _ _ _ h => h) (Or.inl ⟨by rfl, ?_⟩) (by assumption) ?_
              rotate_left
              · (intro wS hSw; (try dsimp only at hSw); go_simp <;> with_reducible rfl)
              try simp only [Act.put, List.setIfInBounds_toArray, List.set_cons_zero, List.set_cons_succ]
              refine wpAnyH_done (by kernel_rfl) ?_ _
              have HS7 : Hid (S1 V w7 (P ++ (Value.slice A3 nl c3).ownBlock.toList ++ (Value.slice A7 (n + 1) c7).ownBlock.toList) gs 200 l) := H3.out.keep HB7.out HO7.out
              have HR7 := Lib.hid (own_keep HR3.out HB7.out)
              go_wp2_with (first
                | (go_at_call 13; (with_reducible refine (CI.out _ _ _ _ _ HS7.out HO7.out).mono ?_); rintro e w8 ⟨rfl, h8, k8⟩; have HR8 := Lib.hid (k8.row HR7.out (fun q hq => List.mem_append_left _ (List.mem_append_right _ (by simp [hq])))); have HS8 := Lib.hid h8; clear h8 k8)
                | (go_at_call 22; (with_reducible refine (CIT.out _ _ _ HS8.out).mono ?_); rintro e w9 ⟨A9, c9, rfl, r9, h9, b9⟩; have HR9 := Lib.hid (own_keep HR8.out b9); have HQ9 := Lib.hid r9; have HS9 := Lib.hid h9; clear r9 h9 b9)
                | (go_at_call 19; (with_reducible refine (CS.out _ _ _ _ _ HQ9.out HR9.out).mono ?_); rintro e w10 ⟨rfl, k10, rfl⟩))
              go_ret
              exact ⟨rfl, acc HBX.out (acc HS9.out.1 (((Touch.refl [] w9).drewN k10).below (Nat.le_refl _) (by simp)))⟩
          · have HBC : Hid (∀ w', Below w3.heap.size w3 w' → (w'.cell? ⟨W.heap.size, 0, none⟩ = some (.string bk) ∧ w'.cell? ⟨W.heap.size, 1, none⟩ = some (.string bv)) ∧ From w' 2 (.slice (some ⟨b, off, sp⟩) k c1) k (itemCells (ms.take k)) ∧ From w' 2 (.slice (some ((⟨b, off, sp⟩ : Addr).add (k * 2))) (n - k) (c1 - k)) (n - k) (itemCells (ms.drop k))) := fun w' h => ⟨(HBF.out w' h).1, (HBF.out w' h).2.1, (HBF.out w' h).2.2 _⟩
            refine wp_region_held_drew (S := (fun w' => w'.cell? ⟨W.heap.size, 0, none⟩ = some (.string bk) ∧ w'.cell? ⟨W.heap.size, 1, none⟩ = some (.string bv))) (by kernel_rfl) ?_ (fun hHeld => ?_)
            · exact (HBC.out _ (Below.refl _ _).drew).1
            refine wpAnyH_take (i := 0) (oi := ⟨_, _, _, _, _, _⟩) (v := ?_) rfl (by kernel_rfl) (by kernel_rfl) (by kernel_rfl) (fun _ _ _ h => h) (Or.inl ⟨by rfl, ?_⟩) (by assumption) ?_
            rotate_left
            · (intro wS hSw; (try dsimp only at hSw); go_simp <;> with_reducible rfl)
            try simp only [Act.put, List.setIfInBounds_toArray, List.set_cons_zero, List.set_cons_succ]
            refine wpAnyH_take (i := 1) (oi := ⟨_, _, _, _, _, _⟩) (v := ?_) rfl (by kernel_rfl) (by kernel_rfl) (by kernel_rfl) (fun _ _ _ h => h) (Or.inl ⟨by rfl, ?_⟩) (by assumption) ?_
            rotate_left
            · (intro wS hSw; (try dsimp only at hSw); go_simp <;> with_reducible rfl)
            try simp only [Act.put, List.setIfInBounds_toArray, List.set_cons_zero, List.set_cons_succ]
            refine wpAnyH_take (i := 2) (oi := ⟨_, _, _, _, _, _⟩) (v := ?_) rfl (by kernel_rfl) (by kernel_rfl) (by kernel_rfl) (fun _ _ _ h => h) (Or.inl ⟨by rfl, ?_⟩) (by assumption) ?_
            rotate_left
            · (intro wS hSw; (try dsimp only at hSw); go_simp <;> with_reducible rfl)
            try simp only [Act.put, List.setIfInBounds_toArray, List.set_cons_zero, List.set_cons_succ]
            refine wpAnyH_take (i := 4) (oi := ⟨_, _, _, _, _, _⟩) (v := ?_) rfl (by kernel_rfl) (by kernel_rfl) (by kernel_rfl) (fun _ _ _ h => h) (Or.inl ⟨by rfl, ?_⟩) (by assumption) ?_
            rotate_left
            · (intro wS hSw; (try dsimp only at hSw); go_simp <;> with_reducible rfl)
            try simp only [Act.put, List.setIfInBounds_toArray, List.set_cons_zero, List.set_cons_succ]
            refine wpAnyH_take (i := 7) (oi := ⟨_, _, _, _, _, _⟩) (v := ?_) rfl (by kernel_rfl) (by kernel_rfl) (by kernel_rfl) (fun _ _ _ h => h) (Or.inl ⟨by rfl, ?_⟩) (by assumption) ?_
            rotate_left
            · (intro wS hSw; (try dsimp only at hSw); go_simp <;> with_reducible rfl)
            try simp only [Act.put, List.setIfInBounds_toArray, List.set_cons_zero, List.set_cons_succ]
            refine wpAnyH_take (i := 8) (oi := ⟨_, _, _, _, _, _⟩) (v := ?_) rfl (by kernel_rfl) (by kernel_rfl) (by kernel_rfl) (fun _ _ _ h => h) (Or.inl ⟨by rfl, ?_⟩) (by assumption) ?_
            rotate_left
            · (intro wS hSw; (try dsimp only at hSw); go_simp <;> with_reducible rfl)
            try simp only [Act.put, List.setIfInBounds_toArray, List.set_cons_zero, List.set_cons_succ]
            refine wpAnyH_take (i := 9) (oi := ⟨_, _, _, _, _, _⟩) (v := ?_) rfl (by kernel_rfl) (by kernel_rfl) (by kernel_rfl) (fun _ _ _ h => h) (Or.inl ⟨by rfl, ?_⟩) (by assumption) ?_
            rotate_left
            · (intro wS hSw; (try dsimp only at hSw); go_simp <;> with_reducible rfl)
            try simp only [Act.put, List.setIfInBounds_toArray, List.set_cons_zero, List.set_cons_succ]
            refine wpAnyH_ready (rs := [3, 5]) (by kernel_rfl) (by simp) ?_
            refine AllReadyH.cons (o := ⟨_, _, _, _, _, _⟩) rfl (fun K hK => ?_) (AllReadyH.cons (o := ⟨_, _, _, _, _, _⟩) rfl (fun K hK => ?_) AllReadyH.nil)
            · refine step_append_any rfl (.const (.slice none 0 0)) (.tmp 92) 22 rfl w3.heap.size 39 i0 (.agg #[.string ⟨#[]⟩, .string ⟨#[]⟩]) 2 32 Try.underlying22 hi0 hz0 hs0 hb0 rfl (by decide) (.slice none 0 0) (0) ([]) (by simp [Act.eval]) (World.ownsRow_nil _ _ _ _) (.slice (some ⟨b, off, sp⟩) k c1) (k) (itemCells (ms.take k)) (by simp [Act.eval]) ((HBC.out _ (Below.refl _ _).drew).2.1) (items_one _) (by unfold maxLen; omega) (by omega) (Nat.le_refl _) ?_
              intro A5 c5 w5 ho5 hg5 hs5
              have hb5 : Below w3.heap.size w3 w5 := (Below.refl _ _).drew.grown hg5 (Nat.le_refl _) (fun q hq => by cases hq)
              have HB5 := Lib.hid hb5
              have HO5 := Lib.hid ho5
              have HOS : Hid (∀ q, (Value.slice A5 (0 + k) c5).ownBlock = some q → w3.heap.size ≤ q ∧ True) := fun q hq => ⟨(ho5.lt q hq).1, trivial⟩
              clear ho5 hg5 hs5 hb5
              refine hK.out _ _ ((HBC.out _ (HB5.out)).1) (fun hHeld => ?_)
              clear hK K
              try simp only [Act.put, List.setIfInBounds_toArray, List.set_cons_zero, List.set_cons_succ]
              refine wpAnyH_ready (rs := [5]) (by kernel_rfl) (by simp) ?_
              refine AllReadyH.cons (o := ⟨_, _, _, _, _, _⟩) rfl (fun K hK => ?_) AllReadyH.nil
              go_simp
              refine hK.out _ _ ((HBC.out _ (HB5.out.alloc HB5.out.size _)).1) (fun hHeld => ?_)
              clear hK K
              try simp only [Act.put, List.setIfInBounds_toArray, List.set_cons_zero, List.set_cons_succ]
              refine wpAnyH_ready (rs := [6]) (by kernel_rfl) (by simp) ?_
              refine AllReadyH.cons (o := ⟨_, _, _, _, _, _⟩) rfl (fun K hK => ?_) AllReadyH.nil
              refine step_append_any rfl (.tmp 93) (.tmp 95) 22 rfl w3.heap.size 39 i0 (.agg #[.string ⟨#[]⟩, .string ⟨#[]⟩]) 2 32 Try.underlying22 hi0 hz0 hs0 hb0 rfl (by decide) (.slice A5 (0 + k) c5) (0 + k) ([] ++ itemCells (ms.take k)) (by simp [Act.eval]) (HO5.out.alloc _) (.slice (some ⟨w5.heap.size, 0, none⟩) 1 1) (1) (itemCells [(bk, bv)]) (by simp [Act.eval]) (item_src _ _ bk bv (heap_alloc_new _ _)) (items_one _) (by unfold maxLen; omega) (by omega) ((HB5.out.alloc HB5.out.size _).size) ?_
              intro A6 c6 w6 ho6 hg6 hs6
              have HB6 : Hid (Below w3.heap.size w3 w6) := ((HB5.out.alloc HB5.out.size _)).grown hg6 ((HB5.out.alloc HB5.out.size _)).size (fun q hq => (HOS.out q hq).1)
              have HO6 := Lib.hid ho6
              have HS6 : Hid (∀ q, (Value.slice A6 (0 + k + 1) c6).ownBlock = some q → w3.heap.size ≤ q) := fun q hq => (ho6.lt q hq).1
              clear ho6 hg6 hs6
              refine hK.out _ _ ((HBC.out _ (HB6.out)).1) (fun hHeld => ?_)
              clear hK K
              try simp only [Act.put, List.setIfInBounds_toArray, List.set_cons_zero, List.set_cons_succ]
              refine wpAnyH_ready (rs := [10]) (by kernel_rfl) (by simp) ?_
              refine AllReadyH.cons (o := ⟨_, _, _, _, _, _⟩) rfl (fun K hK => ?_) AllReadyH.nil
              refine step_append_any rfl (.tmp 96) (.tmp 99) 22 rfl w3.heap.size 39 i0 (.agg #[.string ⟨#[]⟩, .string ⟨#[]⟩]) 2 32 Try.underlying22 hi0 hz0 hs0 hb0 rfl (by decide) (.slice A6 (0 + k + 1) c6) (0 + k + 1) ([] ++ itemCells (ms.take k) ++ itemCells [(bk, bv)]) (by simp [Act.eval]) (HO6.out) (.slice (some ((⟨b, off, sp⟩ : Addr).add (k * 2))) (n - k) (c1 - k)) (n - k) (itemCells (ms.drop k)) (by simp [Act.eval]; intro h; omega) ((HBC.out _ HB6.out).2.2) (items_one _) (by unfold maxLen; omega) (by omega) (HB6.out.size) ?_
              intro A7 c7 w7 ho7 hg7 hs7
              have HB7 : Hid (Below w3.heap.size w3 w7) := HB6.out.grown hg7 HB6.out.size (fun q hq => HS6.out q hq)
              rw [show 0 + k + 1 + (n - k) = n + 1 by omega] at ho7 ⊢
              have HO7 : Hid (w7.ownsRow w3.heap.size 39 2 (.slice A7 (n + 1) c7) (n + 1) (itemCells (ms.take k ++ (bk, bv) :: ms.drop k))) := by
                have z := ho7
                rw [List.nil_append, ← itemCells_append, ← itemCells_append, List.append_assoc] at z
                exact z
              clear ho7 hg7 hs7
              refine hK.out _ _ ((HBC.out _ (HB7.out)).1) (fun hHeld => ?_)
              clear hK K
              try simp only [Act.put, List.setIfInBounds_toArray, List.set_cons_zero, List.set_cons_succ]
              refine wpAnyH_take (i := 11) (oi := ⟨_, _, _, _, _, _⟩) (v := ?_) rfl (by kernel_rfl) (by kernel_rfl) (by kernel_rfl) (fun _ _ _ h => h) (Or.inl ⟨by rfl, ?_⟩) (by assumption) ?_
              rotate_left
              · (intro wS hSw; (try dsimp only at hSw); go_simp <;> with_reducible rfl)
              try simp only [Act.put, List.setIfInBounds_toArray, List.set_cons_zero, List.set_cons_succ]
              refine wpAnyH_done (by kernel_rfl) ?_ _
              have HS7 : Hid (S1 V w7 (P ++ (Value.slice A3 nl c3).ownBlock.toList ++ (Value.slice A7 (n + 1) c7).ownBlock.toList) gs 200 l) := H3.out.keep HB7.out HO7.out
              have HR7 := Lib.hid (own_keep HR3.out HB7.out)
              go_wp2_with (first
                | (go_at_call 13; (with_reducible refine (CI.out _ _ _ _ _ HS7.out HO7.out).mono ?_); rintro e w8 ⟨rfl, h8, k8⟩; have HR8 := Lib.hid (k8.row HR7.out (fun q hq => List.mem_append_left _ (List.mem_append_right _ (by simp [hq])))); have HS8 := Lib.hid h8; clear h8 k8)
                | (go_at_call 22; (with_reducible refine (CIT.out _ _ _ HS8.out).mono ?_); rintro e w9 ⟨A9, c9, rfl, r9, h9, b9⟩; have HR9 := Lib.hid (own_keep HR8.out b9); have HQ9 := Lib.hid r9; have HS9 := Lib.hid h9; clear r9 h9 b9)
                | (go_at_call 19; (with_reducible refine (CS.out _ _ _ _ _ HQ9.out HR9.out).mono ?_); rintro e w10 ⟨rfl, k10, rfl⟩))
              go_ret
              exact ⟨rfl, acc HBX.out (acc HS9.out.1 (((Touch.refl [] w9).drewN k10).below (Nat.le_refl _) (by simp)))⟩
            · go_simp
              refine hK.out _ _ ((HBC.out _ ((Below.refl _ _).drew.alloc (Nat.le_refl _) _)).1) (fun hHeld => ?_)
              clear hK K
              try simp only [Act.put, List.setIfInBounds_toArray, List.set_cons_zero, List.set_cons_succ]
              refine wpAnyH_ready (rs := [3]) (by kernel_rfl) (by simp) ?_
              refine AllReadyH.cons (o := ⟨_, _, _, _, _, _⟩) rfl (fun K hK => ?_) AllReadyH.nil
              refine step_append_any rfl (.const (.slice none 0 0)) (.tmp 92) 22 rfl w3.heap.size 39 i0 (.agg #[.string ⟨#[]⟩, .string ⟨#[]⟩]) 2 32 Try.underlying22 hi0 hz0 hs0 hb0 rfl (by decide) (.slice none 0 0) (0) ([]) (by simp [Act.eval]) (World.ownsRow_nil _ _ _ _) (.slice (some ⟨b, off, sp⟩) k c1) (k) (itemCells (ms.take k)) (by simp [Act.eval]) ((HBC.out _ ((Below.refl _ _).drew.alloc (Nat.le_refl _) _)).2.1) (items_one _) (by unfold maxLen; omega) (by omega) ((by simp)) ?_
              intro A5 c5 w5 ho5 hg5 hs5
              have hb5 : Below w3.heap.size w3 w5 := ((Below.refl _ _).drew.alloc (Nat.le_refl _) _).grown hg5 (by simp) (fun q hq => by cases hq)
              have hbl : w5.heap[w3.heap.size]? = some (.cells #[.string bk, .string bv] 39 (0, 0)) := (hg5.block _ (by simp) (by simp [Value.ownBlock])).trans (heap_alloc_new w3.drew _)
              have HBL := Lib.hid hbl
              have HB5 := Lib.hid hb5
              have HO5 := Lib.hid ho5
              have HOS : Hid (∀ q, (Value.slice A5 (0 + k) c5).ownBlock = some q → w3.heap.size ≤ q ∧ True) := fun q hq => ⟨(ho5.lt q hq).1, trivial⟩
              clear ho5 hg5 hs5 hb5 hbl
              refine hK.out _ _ ((HBC.out _ (HB5.out)).1) (fun hHeld => ?_)
              clear hK K
              try simp only [Act.put, List.setIfInBounds_toArray, List.set_cons_zero, List.set_cons_succ]
              refine wpAnyH_ready (rs := [6]) (by kernel_rfl) (by simp) ?_
              refine AllReadyH.cons (o := ⟨_, _, _, _, _, _⟩) rfl (fun K hK => ?_) AllReadyH.nil
              refine step_append_any rfl (.tmp 93) (.tmp 95) 22 rfl w3.heap.size 39 i0 (.agg #[.string ⟨#[]⟩, .string ⟨#[]⟩]) 2 32 Try.underlying22 hi0 hz0 hs0 hb0 rfl (by decide) (.slice A5 (0 + k) c5) (0 + k) ([] ++ itemCells (ms.take k)) (by simp [Act.eval]) (HO5.out) (.slice (some ⟨w3.heap.size, 0, none⟩) 1 1) (1) (itemCells [(bk, bv)]) (by simp [Act.eval]) (item_src _ _ bk bv HBL.out) (items_one _) (by unfold maxLen; omega) (by omega) (HB5.out.size) ?_
              intro A6 c6 w6 ho6 hg6 hs6
              have HB6 : Hid (Below w3.heap.size w3 w6) := (HB5.out).grown hg6 (HB5.out).size (fun q hq => (HOS.out q hq).1)
              have HO6 := Lib.hid ho6
              have HS6 : Hid (∀ q, (Value.slice A6 (0 + k + 1) c6).ownBlock = some q → w3.heap.size ≤ q) := fun q hq => (ho6.lt q hq).1
              clear ho6 hg6 hs6
              refine hK.out _ _ ((HBC.out _ (HB6.out)).1) (fun hHeld => ?_)
              clear hK K
              try simp only [Act.put, List.setIfInBounds_toArray, List.set_cons_zero, List.set_cons_succ]
              refine wpAnyH_ready (rs := [10]) (by kernel_rfl) (by simp) ?_
              refine AllReadyH.cons (o := ⟨_, _, _, _, _, _⟩) rfl (fun K hK => ?_) AllReadyH.nil
              refine step_append_any rfl (.tmp 96) (.tmp 99) 22 rfl w3.heap.size 39 i0 (.agg #[.string ⟨#[]⟩, .string ⟨#[]⟩]) 2 32 Try.underlying22 hi0 hz0 hs0 hb0 rfl (by decide) (.slice A6 (0 + k + 1) c6) (0 + k + 1) ([] ++ itemCells (ms.take k) ++ itemCells [(bk, bv)]) (by simp [Act.eval]) (HO6.out) (.slice (some ((⟨b, off, sp⟩ : Addr).add (k * 2))) (n - k) (c1 - k)) (n - k) (itemCells (ms.drop k)) (by simp [Act.eval]; intro h; omega) ((HBC.out _ HB6.out).2.2) (items_one _) (by unfold maxLen; omega) (by omega) (HB6.out.size) ?_
              intro A7 c7 w7 ho7 hg7 hs7
              have HB7 : Hid (Below w3.heap.size w3 w7) := HB6.out.grown hg7 HB6.out.size (fun q hq => HS6.out q hq)
              rw [show 0 + k + 1 + (n - k) = n + 1 by omega] at ho7 ⊢
              have HO7 : Hid (w7.ownsRow w3.heap.size 39 2 (.slice A7 (n + 1) c7) (n + 1) (itemCells (ms.take k ++ (bk, bv) :: ms.drop k))) := by
                have z := ho7
                rw [List.nil_append, ← itemCells_append, ← itemCells_append, List.append_assoc] at z
                exact z
              clear ho7 hg7 hs7
              refine hK.out _ _ ((HBC.out _ (HB7.out)).1) (fun hHeld => ?_)
              clear hK K
              try simp only [Act.put, List.setIfInBounds_toArray, List.set_cons_zero, List.set_cons_succ]
              refine wpAnyH_take (i := 11) (oi := ⟨_, _, _, _, _, _⟩) (v := ?_) rfl (by kernel_rfl) (by kernel_rfl) (by kernel_rfl) (fun _ _ _ h => h) (Or.inl ⟨by rfl, ?_⟩) (by assumption) ?_
              rotate_left
              · (intro wS hSw; (try dsimp only at hSw); go_simp <;> with_reducible rfl)
              try simp only [Act.put, List.setIfInBounds_toArray, List.set_cons_zero, List.set_cons_succ]
              refine wpAnyH_done (by kernel_rfl) ?_ _
              have HS7 : Hid (S1 V w7 (P ++ (Value.slice A3 nl c3).ownBlock.toList ++ (Value.slice A7 (n + 1) c7).ownBlock.toList) gs 200 l) := H3.out.keep HB7.out HO7.out
              have HR7 := Lib.hid (own_keep HR3.out HB7.out)
              go_wp2_with (first
                | (go_at_call 13; (with_reducible refine (CI.out _ _ _ _ _ HS7.out HO7.out).mono ?_); rintro e w8 ⟨rfl, h8, k8⟩; have HR8 := Lib.hid (k8.row HR7.out (fun q hq => List.mem_append_left _ (List.mem_append_right _ (by simp [hq])))); have HS8 := Lib.hid h8; clear h8 k8)
                | (go_at_call 22; (with_reducible refine (CIT.out _ _ _ HS8.out).mono ?_); rintro e w9 ⟨A9, c9, rfl, r9, h9, b9⟩; have HR9 := Lib.hid (own_keep HR8.out b9); have HQ9 := Lib.hid r9; have HS9 := Lib.hid h9; clear r9 h9 b9)
                | (go_at_call 19; (with_reducible refine (CS.out _ _ _ _ _ HQ9.out HR9.out).mono ?_); rintro e w10 ⟨rfl, k10, rfl⟩))
              go_ret
              exact ⟨rfl, acc HBX.out (acc HS9.out.1 (((Touch.refl [] w9).drewN k10).below (Nat.le_refl _) (by simp)))⟩
set_option maxRecDepth 100000 in
set_option maxHeartbeats 8000000 in
theorem cutNone_any (A0 : Option Addr) (c0 : Nat) (zs : List Item) (A1 : Option Addr) (c1 : Nat) (ms : List Item) (at_ : Int) (bk bv : ByteArray) (W : World) (hA : ItemsAt W A0 zs) (hM : ItemsAt W A1 ms) (hz : zs.length ≤ 9223372036854775807) (hm : ms.length ≤ 9223372036854775807) (hc : ms.length ≤ c1) (hcm : c1 ≤ maxLen)
    (hn : A1 = none → c1 = 0) (hk : bk.size ≤ maxLen) (hv : bv.size ≤ maxLen) :
    Calls Try.prog 6 #[.slice A0 zs.length c0, .slice A1 ms.length c1, .int .i64 at_, .agg #[.string bk, .string bv]] W fun e w' => e = .returned (.bool true) ∧ Below W.heap.size W w' := by
  have hk2 := hk
  have hv2 := hv
  unfold maxLen at hk2 hv2
  have CA : Hid (∀ w, Calls Try.prog 9 #[] w fun e w' => e = .returned (.bool true) ∧ Below w.heap.size w w') := fun w => cutAlive_any w w (Below.refl _ _)
  have HBX : Hid (Below W.heap.size W (W.alloc (.cells #[.string bk, .string bv] 39))) := (Below.refl _ _).alloc (Nat.le_refl _) _
  by_cases bad : 40 < zs.length ∨ 40 < ms.length ∨ 60 < bk.size ∨ 60 < bv.size
  · obtain ⟨nz, hnz⟩ : ∃ x, zs.length = x := ⟨_, rfl⟩
    obtain ⟨n, hnm⟩ : ∃ x, ms.length = x := ⟨_, rfl⟩
    rw [hnz] at bad hz ⊢
    rw [hnm] at bad hm hc ⊢
    clear hA hM hnz hnm
    by_cases c0 : 40 < nz
    · have d0 : decide ((40 : Int) < (nz : Int)) = true := by simp; omega
      go_enter Try.func6, Try.ntmps6
      go_wp2_with (go_at_call 9; (with_reducible refine (CA.out _).mono ?_); rintro e w1 ⟨rfl, h1⟩)
      go_ret
      exact ⟨rfl, acc HBX.out h1⟩
    have d0 : decide ((40 : Int) < (nz : Int)) = false := by simp; omega
    by_cases c1 : 40 < n
    · have d1 : decide ((40 : Int) < (n : Int)) = true := by simp; omega
      go_enter Try.func6, Try.ntmps6
      go_wp2_with (go_at_call 9; (with_reducible refine (CA.out _).mono ?_); rintro e w1 ⟨rfl, h1⟩)
      go_ret
      exact ⟨rfl, acc HBX.out h1⟩
    have d1 : decide ((40 : Int) < (n : Int)) = false := by simp; omega
    by_cases c2 : 60 < bk.size
    · have d2 : decide ((60 : Int) < (bk.size : Int)) = true := by simp; omega
      go_enter Try.func6, Try.ntmps6
      go_wp2_with (go_at_call 9; (with_reducible refine (CA.out _).mono ?_); rintro e w1 ⟨rfl, h1⟩)
      go_ret
      exact ⟨rfl, acc HBX.out h1⟩
    have d2 : decide ((60 : Int) < (bk.size : Int)) = false := by simp; omega
    by_cases c3 : 60 < bv.size
    · have d3 : decide ((60 : Int) < (bv.size : Int)) = true := by simp; omega
      go_enter Try.func6, Try.ntmps6
      go_wp2_with (go_at_call 9; (with_reducible refine (CA.out _).mono ?_); rintro e w1 ⟨rfl, h1⟩)
      go_ret
      exact ⟨rfl, acc HBX.out h1⟩
    have d3 : decide ((60 : Int) < (bv.size : Int)) = false := by simp; omega
    exfalso
    omega
  · by_cases good : rightN bk = 0 ∧ valueN bv = 0
    · have CK := Lib.hid (fun w => refKey_any bk w hk)
      have CV := Lib.hid (fun w => refValue_any bv w hv)
      rw [good.1] at CK
      rw [good.2] at CV
      have d2 : decide ((60 : Int) < (bk.size : Int)) = false := by simp; omega
      have d3 : decide ((60 : Int) < (bv.size : Int)) = false := by simp; omega
      have HB : Hid (Var2 (W.alloc (.cells #[.string bk, .string bv] 39)) W.heap.size (.string bk) (.string bv)) := Var2.new W _ _ _
      obtain ⟨nz, hnz⟩ : ∃ x, zs.length = x := ⟨_, rfl⟩
      obtain ⟨n, hnm⟩ : ∃ x, ms.length = x := ⟨_, rfl⟩
      rw [hnz] at bad hz ⊢
      rw [hnm] at bad hm hc ⊢
      have d0 : decide ((40 : Int) < (nz : Int)) = false := by simp; omega
      have d1 : decide ((40 : Int) < (n : Int)) = false := by simp; omega
      clear hA hM hnz hnm good bad
      go_enter Try.func6, Try.ntmps6
      go_wp2_with (first
        | (go_at_call 9; (with_reducible refine (CA.out _).mono ?_); rintro e w1 ⟨rfl, h1⟩; obtain ⟨y0, y1, -, -⟩ := HB.out.below h1; have B1 := Lib.hid h1; clear h1)
        | (go_at_call 23; (with_reducible refine (CK.out _).mono ?_); rintro e w2 ⟨rfl, rfl⟩)
        | (go_at_call 24; (with_reducible refine (CV.out _).mono ?_); rintro e w3 ⟨rfl, rfl⟩))
      go_ret
      exact ⟨rfl, acc HBX.out B1.out⟩
    · refine cutNoneGo A0 c0 zs A1 c1 ms at_ bk bv W hA hM (by omega) (by omega) hc hcm hn (by omega) (by omega) ?_
      by_cases c : rightN bk = 0
      · exact .inr (fun z => good ⟨c, z⟩)
      · exact .inl c
end Go.Proofs.Ytojiblhaiokdcaa
