/-
  The walk of the statements' own Filled: the code's shelf and the document's, filled alike. (Written by tools/genFilled.py.)
-/
import Derived.Test.YtojiblhaiokdcaaShelfRef
import Derived.Test.YtojiblhaiokdcaaBookItems
namespace Go.Proofs.Ytojiblhaiokdcaa
open Go.RowKit

set_option maxRecDepth 100000 in
set_option maxHeartbeats 8000000 in
theorem filled_any {SH : World → Nat → Int → List Item → List Nat → Prop} (L : ShelfLaws SH) (A : Option Addr) (c : Nat) (zs : List Item) (W w0 : World) (hw : Below W.heap.size W w0) (hA : ItemsAt W A zs) (hz : zs.length ≤ 9223372036854775807) :
    Calls Try.prog 10 #[.slice A zs.length c] w0 fun e w' => ∃ gs gr, e = .returned (.tuple #[.pointer (some ⟨gs, 0, none⟩), .pointer (some ⟨gr, 0, none⟩)]) ∧ OSR SH W w' [] gs (fillL zs) gr (fillL zs) := by
  have HL : Hid (ShelfLaws SH) := L
  have HA := Lib.hid hA
  have HW := Lib.hid hw
  have CN : Hid (∀ w, Below W.heap.size W w → Calls Try.prog 11 #[.int .i64 200] w fun e w' => ∃ g, e = .returned (.pointer (some ⟨g, 0, none⟩)) ∧ OS SH W w' g 200 []) := fun w h => OS.new L h 200 (by omega) (by omega)
  have CR : Hid (∀ w, Calls Try.prog 26 #[.int .i64 200] w fun e w' => e = .returned (.pointer (some ⟨w.heap.size, 0, none⟩)) ∧ Below w.heap.size w w' ∧ RS w' w.heap.size [] 200 []) := fun w => refShelves_any 200 w (by omega) (by omega)
  obtain ⟨n, hn⟩ : ∃ n, zs.length = n := ⟨_, rfl⟩
  have HN := Lib.hid hn
  rw [hn] at hz ⊢
  clear hn hA hw
  go_enter Try.func10, Try.ntmps10
  go_wp2_with (first
    | (go_at_call 11; (with_reducible refine (CN.out _ HW.out).mono ?_); rintro e w1 ⟨gs, rfl, h1⟩; have H1 := Lib.hid h1; clear h1)
    | (go_at_call 26; (with_reducible refine (CR.out _).mono ?_); rintro e w2 ⟨rfl, hb, hr⟩; have H2 := Lib.hid (OSR.start L H1.out hb hr); clear hb hr))
  obtain ⟨gr, hgr⟩ : ∃ gr, w1.heap.size = gr := ⟨_, rfl⟩
  rw [hgr] at H2 ⊢
  clear H1 CN CR hgr
  go_loopg [6] (min n 60 + 1) (fun gh s6 wx => ∃ i : Nat, i + gh = min n 60 + 1 ∧ i ≤ n ∧ i ≤ 60 ∧ s6 = .int .i64 (i : Nat) ∧ Hid (OSR SH W wx [] gs ((zs.take i).foldl fill1 []) gr ((zs.take i).foldl fill1 [])))
  case atStart => exact ⟨0, by omega, by omega, by omega, rfl, H2.out⟩
  case round =>
    obtain ⟨i, hig, hi, hi6, rfl, HS⟩ := hrel
    by_cases hlt : i < n
    · by_cases h60 : i < 60
      · have hiz : i < zs.length := by rw [HN.out]; exact hlt
        obtain ⟨b, off, hcell⟩ := HA.out
        obtain ⟨rfl, hbW, q0, q1⟩ := hcell i hiz
        have hst := fill_step hiz
        obtain ⟨x, hx⟩ : ∃ x, zs[i] = x := ⟨_, rfl⟩
        rw [hx] at q0 q1 hst
        obtain ⟨k, v⟩ := x
        have HSS : Hid (∀ w', Below W.heap.size W w' → w'.cell? ⟨b, off + i * 2, none⟩ = some (.string k) ∧ w'.cell? ⟨b, off + i * 2 + 1, none⟩ = some (.string v)) := fun w' h => ⟨(h.cell (p := ⟨b, off + i * 2, none⟩) hbW).trans q0, (h.cell (p := ⟨b, off + i * 2 + 1, none⟩) hbW).trans q1⟩
        have hlen : ((zs.take i).foldl fill1 []).length ≤ 60 := by
          have z := foldl_length (zs.take i) []
          rw [List.length_take] at z
          simp at z
          omega
        obtain ⟨l, hl⟩ : ∃ l, (zs.take i).foldl fill1 [] = l := ⟨_, rfl⟩
        rw [hl] at HS hst hlen
        have HST := Lib.hid hst
        obtain ⟨c0, c1⟩ := HSS.out wr HS.out.1
        clear hcell hx hiz hl hst q0 q1
        by_cases ck : 40 < k.size
        · have g1 : decide ((k.size : Int) ≤ 40) = false := by simp; omega
          have HE : Hid (fill1 l (k, v) = l) := if_neg (by rintro ⟨z, _⟩; have z : k.size ≤ 40 := z; omega)
          go_wp2_with fail
          go_roundg (gk - 1)
          case measure => omega
          case rel => exact ⟨i + 1, by omega, by omega, by omega, by go_num, by rw [HST.out, HE.out]; exact HS.out⟩
        have g1 : decide ((k.size : Int) ≤ 40) = true := by simp; omega
        by_cases cv : 40 < v.size
        · have g2 : decide ((v.size : Int) ≤ 40) = false := by simp; omega
          have HE : Hid (fill1 l (k, v) = l) := if_neg (by rintro ⟨_, z⟩; have z : v.size ≤ 40 := z; omega)
          go_wp2_with fail
          go_roundg (gk - 1)
          case measure => omega
          case rel => exact ⟨i + 1, by omega, by omega, by omega, by go_num, by rw [HST.out, HE.out]; exact HS.out⟩
        have g2 : decide ((v.size : Int) ≤ 40) = true := by simp; omega
        have HE : Hid (fill1 l (k, v) = putS 200 l k v) := if_pos ⟨by show k.size ≤ 40; omega, by show v.size ≤ 40; omega⟩
        have hkl : k.size ≤ maxLen := by unfold maxLen; omega
        have hvl : v.size ≤ maxLen := by unfold maxLen; omega
        have P1 : Hid (∀ w, OSR SH W w [] gs l gr l → Calls Try.prog 27 #[.pointer (some ⟨gs, 0, none⟩), .string k, .string v] w fun e w' => ∃ r : Int, e = .returned (.int .i64 r) ∧ OSR SH W w' [] gs (putS 200 l k v) gr l) := fun w h => (h.put L k v hkl hvl rfl rfl).mono (by
          rintro e w' ⟨rfl, z, _⟩
          exact ⟨_, rfl, z⟩)
        have P2 : Hid (∀ w, OSR SH W w [] gs (putS 200 l k v) gr l → Calls Try.prog 28 #[.pointer (some ⟨gr, 0, none⟩), .string k, .string v] w fun e w' => ∃ r : Int, e = .returned (.int .i64 r) ∧ OSR SH W w' [] gs (putS 200 l k v) gr (putS 200 l k v)) := fun w h => (h.rput L k v hkl hvl (by omega) rfl rfl).mono (by
          rintro e w' ⟨rfl, z, _⟩
          exact ⟨_, rfl, z⟩)
        go_upto_region 6 with fail
        have HP0 := Lib.hid (HS.out.drew L)
        have hb0 := HP0.out.1
        refine wp_region_held_drew (S := (fun w' => w'.cell? ⟨b, off + i * 2, none⟩ = some (.string k) ∧ w'.cell? ⟨b, off + i * 2 + 1, none⟩ = some (.string v))) (by kernel_rfl) ?_ (fun hHeld => ?_)
        · (try dsimp only); (first | assumption | exact HSS.out _ (by assumption))
        refine wpAnyH_take (i := 0) (oi := ⟨_, _, _, _, _, _⟩) (v := ?_) rfl (by kernel_rfl) (by kernel_rfl) (by kernel_rfl) (fun _ _ _ h => h) (Or.inl ⟨by rfl, ?_⟩) (by assumption) ?_
        rotate_left
        · (intro wS hSw; (try dsimp only at hSw); go_simp <;> with_reducible rfl)
        try simp only [Act.put, List.setIfInBounds_toArray, List.set_cons_zero, List.set_cons_succ]
        refine wpAnyH_take (i := 1) (oi := ⟨_, _, _, _, _, _⟩) (v := ?_) rfl (by kernel_rfl) (by kernel_rfl) (by kernel_rfl) (fun _ _ _ h => h) (Or.inl ⟨by rfl, ?_⟩) (by assumption) ?_
        rotate_left
        · (intro wS hSw; (try dsimp only at hSw); go_simp <;> with_reducible rfl)
        try simp only [Act.put, List.setIfInBounds_toArray, List.set_cons_zero, List.set_cons_succ]
        refine wpAnyH_take (i := 2) (oi := ⟨_, _, _, _, _, _⟩) (v := ?_) rfl (by kernel_rfl) (by kernel_rfl) (by kernel_rfl) (fun _ _ _ h => h) (Or.inl ⟨by rfl, ?_⟩) (by assumption) ?_
        rotate_left
        · (intro wS hSw; (try dsimp only at hSw); go_simp <;> with_reducible rfl)
        try simp only [Act.put, List.setIfInBounds_toArray, List.set_cons_zero, List.set_cons_succ]
        refine wpAnyH_take (i := 3) (oi := ⟨_, _, _, _, _, _⟩) (v := ?_) rfl (by kernel_rfl) (by kernel_rfl) (by kernel_rfl) (fun _ _ _ h => h) (Or.inl ⟨by rfl, ?_⟩) (by assumption) ?_
        rotate_left
        · (intro wS hSw; (try dsimp only at hSw); go_simp <;> with_reducible rfl)
        try simp only [Act.put, List.setIfInBounds_toArray, List.set_cons_zero, List.set_cons_succ]
        refine wpAnyH_take (i := 4) (oi := ⟨_, _, _, _, _, _⟩) (v := ?_) rfl (by kernel_rfl) (by kernel_rfl) (by kernel_rfl) (fun _ _ _ h => h) (Or.inl ⟨by rfl, ?_⟩) (by assumption) ?_
        rotate_left
        · (intro wS hSw; (try dsimp only at hSw); go_simp <;> with_reducible rfl)
        try simp only [Act.put, List.setIfInBounds_toArray, List.set_cons_zero, List.set_cons_succ]
        refine wpAnyH_take (i := 5) (oi := ⟨_, _, _, _, _, _⟩) (v := ?_) rfl (by kernel_rfl) (by kernel_rfl) (by kernel_rfl) (fun _ _ _ h => h) (Or.inl ⟨by rfl, ?_⟩) (by assumption) ?_
        rotate_left
        · (intro wS hSw; (try dsimp only at hSw); go_simp <;> with_reducible rfl)
        try simp only [Act.put, List.setIfInBounds_toArray, List.set_cons_zero, List.set_cons_succ]
        refine wpAnyH_take (i := 6) (oi := ⟨_, _, _, _, _, _⟩) (v := ?_) rfl (by kernel_rfl) (by kernel_rfl) (by kernel_rfl) (fun _ _ _ h => h) (Or.inl ⟨by rfl, ?_⟩) (by assumption) ?_
        rotate_left
        · (intro wS hSw; (try dsimp only at hSw); go_simp <;> with_reducible rfl)
        try simp only [Act.put, List.setIfInBounds_toArray, List.set_cons_zero, List.set_cons_succ]
        refine wpAnyH_take (i := 7) (oi := ⟨_, _, _, _, _, _⟩) (v := ?_) rfl (by kernel_rfl) (by kernel_rfl) (by kernel_rfl) (fun _ _ _ h => h) (Or.inl ⟨by rfl, ?_⟩) (by assumption) ?_
        rotate_left
        · (intro wS hSw; (try dsimp only at hSw); go_simp <;> with_reducible rfl)
        try simp only [Act.put, List.setIfInBounds_toArray, List.set_cons_zero, List.set_cons_succ]
        refine wpAnyH_take (i := 8) (oi := ⟨_, _, _, _, _, _⟩) (v := ?_) rfl (by kernel_rfl) (by kernel_rfl) (by kernel_rfl) (fun _ _ _ h => h) (Or.inl ⟨by rfl, ?_⟩) (by assumption) ?_
        rotate_left
        · (intro wS hSw; (try dsimp only at hSw); go_simp <;> with_reducible rfl)
        try simp only [Act.put, List.setIfInBounds_toArray, List.set_cons_zero, List.set_cons_succ]
        refine wpAnyH_take (i := 9) (oi := ⟨_, _, _, _, _, _⟩) (v := ?_) rfl (by kernel_rfl) (by kernel_rfl) (by kernel_rfl) (fun _ _ _ h => h) (Or.inl ⟨by rfl, ?_⟩) (by assumption) ?_
        rotate_left
        · (intro wS hSw; (try dsimp only at hSw); go_simp <;> with_reducible rfl)
        try simp only [Act.put, List.setIfInBounds_toArray, List.set_cons_zero, List.set_cons_succ]
        refine wpAnyH_take (i := 10) (oi := ⟨_, _, _, _, _, _⟩) (v := ?_) rfl (by kernel_rfl) (by kernel_rfl) (by kernel_rfl) (fun _ _ _ h => h) (Or.inl ⟨by rfl, ?_⟩) (by assumption) ?_
        rotate_left
        · (intro wS hSw; (try dsimp only at hSw); go_simp <;> with_reducible rfl)
        try simp only [Act.put, List.setIfInBounds_toArray, List.set_cons_zero, List.set_cons_succ]
        refine wpAnyH_ready (rs := [11]) (by kernel_rfl) (by simp) ?_
        refine AllReadyH.cons (o := ⟨_, _, _, _, _, _⟩) rfl (fun K hK => ?_) AllReadyH.nil
        go_simp
        (first | (go_at_call 27; (with_reducible refine (P1.out _ HP0.out).mono ?_); rintro e w3 ⟨r3, rfl, h3⟩; have HP3 := Lib.hid h3; have hb3 := h3.1; clear h3))
        go_wp2_with fail
        refine hK.out _ _ (by (try dsimp only); (first | assumption | exact HSS.out _ (by assumption))) (fun hHeld => ?_)
        clear hK K
        try simp only [Act.put, List.setIfInBounds_toArray, List.set_cons_zero, List.set_cons_succ]
        refine wpAnyH_done (by kernel_rfl) ?_ _
        go_upto_region 7 with fail
        have HP4 := Lib.hid (HP3.out.drew L)
        have hb4 := HP4.out.1
        refine wp_region_held_drew (S := (fun w' => w'.cell? ⟨b, off + i * 2, none⟩ = some (.string k) ∧ w'.cell? ⟨b, off + i * 2 + 1, none⟩ = some (.string v))) (by kernel_rfl) ?_ (fun hHeld => ?_)
        · (try dsimp only); (first | assumption | exact HSS.out _ (by assumption))
        refine wpAnyH_take (i := 0) (oi := ⟨_, _, _, _, _, _⟩) (v := ?_) rfl (by kernel_rfl) (by kernel_rfl) (by kernel_rfl) (fun _ _ _ h => h) (Or.inl ⟨by rfl, ?_⟩) (by assumption) ?_
        rotate_left
        · (intro wS hSw; (try dsimp only at hSw); go_simp <;> with_reducible rfl)
        try simp only [Act.put, List.setIfInBounds_toArray, List.set_cons_zero, List.set_cons_succ]
        refine wpAnyH_take (i := 1) (oi := ⟨_, _, _, _, _, _⟩) (v := ?_) rfl (by kernel_rfl) (by kernel_rfl) (by kernel_rfl) (fun _ _ _ h => h) (Or.inl ⟨by rfl, ?_⟩) (by assumption) ?_
        rotate_left
        · (intro wS hSw; (try dsimp only at hSw); go_simp <;> with_reducible rfl)
        try simp only [Act.put, List.setIfInBounds_toArray, List.set_cons_zero, List.set_cons_succ]
        refine wpAnyH_take (i := 2) (oi := ⟨_, _, _, _, _, _⟩) (v := ?_) rfl (by kernel_rfl) (by kernel_rfl) (by kernel_rfl) (fun _ _ _ h => h) (Or.inl ⟨by rfl, ?_⟩) (by assumption) ?_
        rotate_left
        · (intro wS hSw; (try dsimp only at hSw); go_simp <;> with_reducible rfl)
        try simp only [Act.put, List.setIfInBounds_toArray, List.set_cons_zero, List.set_cons_succ]
        refine wpAnyH_take (i := 3) (oi := ⟨_, _, _, _, _, _⟩) (v := ?_) rfl (by kernel_rfl) (by kernel_rfl) (by kernel_rfl) (fun _ _ _ h => h) (Or.inl ⟨by rfl, ?_⟩) (by assumption) ?_
        rotate_left
        · (intro wS hSw; (try dsimp only at hSw); go_simp <;> with_reducible rfl)
        try simp only [Act.put, List.setIfInBounds_toArray, List.set_cons_zero, List.set_cons_succ]
        refine wpAnyH_take (i := 4) (oi := ⟨_, _, _, _, _, _⟩) (v := ?_) rfl (by kernel_rfl) (by kernel_rfl) (by kernel_rfl) (fun _ _ _ h => h) (Or.inl ⟨by rfl, ?_⟩) (by assumption) ?_
        rotate_left
        · (intro wS hSw; (try dsimp only at hSw); go_simp <;> with_reducible rfl)
        try simp only [Act.put, List.setIfInBounds_toArray, List.set_cons_zero, List.set_cons_succ]
        refine wpAnyH_take (i := 5) (oi := ⟨_, _, _, _, _, _⟩) (v := ?_) rfl (by kernel_rfl) (by kernel_rfl) (by kernel_rfl) (fun _ _ _ h => h) (Or.inl ⟨by rfl, ?_⟩) (by assumption) ?_
        rotate_left
        · (intro wS hSw; (try dsimp only at hSw); go_simp <;> with_reducible rfl)
        try simp only [Act.put, List.setIfInBounds_toArray, List.set_cons_zero, List.set_cons_succ]
        refine wpAnyH_take (i := 6) (oi := ⟨_, _, _, _, _, _⟩) (v := ?_) rfl (by kernel_rfl) (by kernel_rfl) (by kernel_rfl) (fun _ _ _ h => h) (Or.inl ⟨by rfl, ?_⟩) (by assumption) ?_
        rotate_left
        · (intro wS hSw; (try dsimp only at hSw); go_simp <;> with_reducible rfl)
        try simp only [Act.put, List.setIfInBounds_toArray, List.set_cons_zero, List.set_cons_succ]
        refine wpAnyH_take (i := 7) (oi := ⟨_, _, _, _, _, _⟩) (v := ?_) rfl (by kernel_rfl) (by kernel_rfl) (by kernel_rfl) (fun _ _ _ h => h) (Or.inl ⟨by rfl, ?_⟩) (by assumption) ?_
        rotate_left
        · (intro wS hSw; (try dsimp only at hSw); go_simp <;> with_reducible rfl)
        try simp only [Act.put, List.setIfInBounds_toArray, List.set_cons_zero, List.set_cons_succ]
        refine wpAnyH_take (i := 8) (oi := ⟨_, _, _, _, _, _⟩) (v := ?_) rfl (by kernel_rfl) (by kernel_rfl) (by kernel_rfl) (fun _ _ _ h => h) (Or.inl ⟨by rfl, ?_⟩) (by assumption) ?_
        rotate_left
        · (intro wS hSw; (try dsimp only at hSw); go_simp <;> with_reducible rfl)
        try simp only [Act.put, List.setIfInBounds_toArray, List.set_cons_zero, List.set_cons_succ]
        refine wpAnyH_take (i := 9) (oi := ⟨_, _, _, _, _, _⟩) (v := ?_) rfl (by kernel_rfl) (by kernel_rfl) (by kernel_rfl) (fun _ _ _ h => h) (Or.inl ⟨by rfl, ?_⟩) (by assumption) ?_
        rotate_left
        · (intro wS hSw; (try dsimp only at hSw); go_simp <;> with_reducible rfl)
        try simp only [Act.put, List.setIfInBounds_toArray, List.set_cons_zero, List.set_cons_succ]
        refine wpAnyH_take (i := 10) (oi := ⟨_, _, _, _, _, _⟩) (v := ?_) rfl (by kernel_rfl) (by kernel_rfl) (by kernel_rfl) (fun _ _ _ h => h) (Or.inl ⟨by rfl, ?_⟩) (by assumption) ?_
        rotate_left
        · (intro wS hSw; (try dsimp only at hSw); go_simp <;> with_reducible rfl)
        try simp only [Act.put, List.setIfInBounds_toArray, List.set_cons_zero, List.set_cons_succ]
        refine wpAnyH_ready (rs := [11]) (by kernel_rfl) (by simp) ?_
        refine AllReadyH.cons (o := ⟨_, _, _, _, _, _⟩) rfl (fun K hK => ?_) AllReadyH.nil
        go_simp
        (first | (go_at_call 28; (with_reducible refine (P2.out _ HP4.out).mono ?_); rintro e w5 ⟨r5, rfl, h5⟩; have HP5 := Lib.hid h5; have hb5 := h5.1; clear h5))
        go_wp2_with fail
        refine hK.out _ _ (by (try dsimp only); (first | assumption | exact HSS.out _ (by assumption))) (fun hHeld => ?_)
        clear hK K
        try simp only [Act.put, List.setIfInBounds_toArray, List.set_cons_zero, List.set_cons_succ]
        refine wpAnyH_done (by kernel_rfl) ?_ _
        go_wp2_with fail
        go_roundg (gk - 1)
        case measure => omega
        case rel => exact ⟨i + 1, by omega, by omega, by omega, by go_num, by rw [HST.out, HE.out]; exact HP5.out⟩
      · have hmin : zs.take i = zs.take 60 := by rw [show i = 60 by omega]
        have HE := HS
        rw [hmin] at HE
        have h6 : decide ((i : Int) < 60) = false := by simp; omega
        go_wp2_with fail
        go_ret2
        exact ⟨gs, gr, rfl, HE.out⟩
    · obtain rfl : i = n := by omega
      have hmin : zs.take i = zs.take 60 := by rw [List.take_of_length_le (by rw [HN.out]; omega), List.take_of_length_le (by rw [HN.out]; omega)]
      have HE := HS
      rw [hmin] at HE
      go_wp2_with fail
      go_ret2
      exact ⟨gs, gr, rfl, HE.out⟩
end Go.Proofs.Ytojiblhaiokdcaa
