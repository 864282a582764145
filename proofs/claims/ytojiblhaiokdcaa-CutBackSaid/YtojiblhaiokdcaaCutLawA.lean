/-
  CutBack: what was cut out, and put in again, is there as if nothing had been done. (Written by tools/genCBack.py.)
-/
import Derived.Test.YtojiblhaiokdcaaCutBegin
namespace Go.Proofs.Ytojiblhaiokdcaa
open Go.RowKit

/-- what a list of a shelf's items, in a block that stays, asks of SameItems -/
theorem same_any (A B : Option Addr) (c d n b1 b2 : Nat) (l : List Item) (W : World) (hn : l.length = n) (hA : W.ownsRow b1 39 2 (.slice A n c) n (itemCells l)) (hB : W.ownsRow b2 39 2 (.slice B n d) n (itemCells l)) :
    Calls Try.prog 19 #[.slice A n c, .slice B n d] W fun e w' => e = .returned (.bool true) ∧ ∃ k, w' = W.drewN k := by
  subst hn
  have z := sameItems_any A B c d l l W (own_mono hA (Nat.zero_le _)) (own_mono hB (Nat.zero_le _))
  rwa [(sameL_iff l l).2 rfl] at z
set_option maxRecDepth 100000 in
set_option maxHeartbeats 8000000 in
theorem cutBack_any (A : Option Addr) (c : Nat) (zs : List Item) (f t : Nat) (W : World) (hA : ItemsAt W A zs) (hz : zs.length ≤ 9223372036854775807) (hf : f < 18446744073709551616) (ht : t < 18446744073709551616) :
    Calls Try.prog 7 #[.slice A zs.length c, .agg #[.int .u64 (f : Nat), .int .u64 (t : Nat)]] W fun e w' => e = .returned (.bool true) ∧ Below W.heap.size W w' := by
  have CA : Hid (∀ w, Calls Try.prog 9 #[] w fun e w' => e = .returned (.bool true) ∧ Below w.heap.size w w') := fun w => cutAlive_any w w (Below.refl _ _)
  obtain ⟨V, hV⟩ : ∃ V, W.alloc (.cells #[.int .u64 (f : Nat), .int .u64 (t : Nat)] 25) = V := ⟨_, rfl⟩
  have HBX : Hid (Below W.heap.size W V) := by rw [← hV]; exact (Below.refl _ _).alloc (Nat.le_refl _) _
  have hAV : ItemsAt V A zs := by
    obtain ⟨b, off, h⟩ := hA
    refine ⟨b, off, fun i hi => ?_⟩
    obtain ⟨a1, a2, a3, a4⟩ := h i hi
    exact ⟨a1, Nat.lt_of_lt_of_le a2 HBX.out.size, (HBX.out.cell (p := ⟨b, off + i * 2, none⟩) a2).trans a3, (HBX.out.cell (p := ⟨b, off + i * 2 + 1, none⟩) a2).trans a4⟩
  obtain ⟨l, hl⟩ : ∃ l, fillL zs = l := ⟨_, rfl⟩
  have hfine : Fine l := by rw [← hl]; exact fillL_fine zs
  have hright : Right l := by rw [← hl]; exact fillL_right zs
  have hlen : l.length ≤ 60 := by rw [← hl]; exact fillL_length zs
  have CF : Hid (∀ w, Below V.heap.size V w → Calls Try.prog 10 #[.slice A zs.length c] w fun e w' => ∃ gs gr Fr, e = .returned (.tuple #[.pointer (some ⟨gs, 0, none⟩), .pointer (some ⟨gr, 0, none⟩)]) ∧ S1 V w' (gr :: Fr) gs 200 l ∧ RS w' gr Fr 200 l) := fun w hw => (filled_any shelfLaws A c zs V w hw hAV hz).mono (by
    rintro e w' ⟨gs, gr, rfl, z⟩
    rw [hl] at z
    obtain ⟨Fr, z1, z2⟩ := S1.of z
    exact ⟨gs, gr, Fr, rfl, z1, z2⟩)
  obtain ⟨a, ha⟩ : ∃ a, arcL l f t = a := ⟨_, rfl⟩
  obtain ⟨left, hleft⟩ : ∃ left, leftL l f t = left := ⟨_, rfl⟩
  obtain ⟨na, hna⟩ : ∃ na, a.length = na := ⟨_, rfl⟩
  obtain ⟨nl, hnl⟩ : ∃ nl, l.length = nl := ⟨_, rfl⟩
  have HN := Lib.hid hnl
  have CO : Hid (∀ w gs P, S1 V w P gs 200 l → Calls Try.prog 12 #[.pointer (some ⟨gs, 0, none⟩), .agg #[.int .u64 (f : Nat), .int .u64 (t : Nat)]] w fun e w' =>
      ∃ A c, e = .returned (.slice A na c) ∧ w'.ownsRow w.heap.size 39 2 (.slice A na c) na (itemCells a) ∧ S1 V w' (P ++ (Value.slice A na c).ownBlock.toList) gs 200 left ∧ Kp P w w') := fun w gs P h => by
    have z := h.out f t hf ht ha hleft
    rwa [hna] at z
  have hback := puts_back hfine.1 hright (by omega) f t
  rw [ha, hleft] at hback
  have CI : Hid (∀ w gs P A c, S1 V w P gs 200 left → w.ownsRow 0 39 2 (.slice A na c) na (itemCells a) → (∀ q, (Value.slice A na c).ownBlock = some q → q ∈ P) → Calls Try.prog 13 #[.pointer (some ⟨gs, 0, none⟩), .slice A na c] w fun e w' => e = .returned (.int .i64 0) ∧ S1 V w' P gs 200 l ∧ Kp P w w') := fun w gs P A c h hr hP => by
    have z := h.cin (ms := a) (by rw [hna]; exact hr) (by rw [hna]; exact hP) (fun x hx => by
      have z := hright.arc f t x (by rw [ha]; exact hx)
      unfold rightN valueN at z
      unfold maxLen
      constructor
      · have := z.1; split at this <;> omega
      · have := z.2; split at this <;> omega) hback.1 (l2 := l) (by rw [inS, if_pos hback.1]; exact hback.2)
    rwa [hna] at z
  have CS : Hid (∀ w A B c d, w.ownsRow 0 39 2 (.slice A nl c) nl (itemCells l) → w.ownsRow 0 39 2 (.slice B nl d) nl (itemCells l) → Calls Try.prog 19 #[.slice A nl c, .slice B nl d] w fun e w' => e = .returned (.bool true) ∧ ∃ k, w' = w.drewN k) := fun w A B c d h1 h2 => same_any A B c d nl _ _ l w hnl h1 h2
  obtain ⟨nz, hnz⟩ : ∃ x, zs.length = x := ⟨_, rfl⟩
  rw [hnz] at CF hz ⊢
  have HV := Lib.hid hV
  have HVC : Hid (∀ w, Below V.heap.size V w → w.cell? ⟨W.heap.size, 0, none⟩ = some (.int .u64 (f : Nat)) ∧ w.cell? ⟨W.heap.size, 1, none⟩ = some (.int .u64 (t : Nat))) := fun w hw => by
    have hlt : W.heap.size < V.heap.size := by rw [← hV]; simp
    have g0 : V.cell? ⟨W.heap.size, 0, none⟩ = some (.int .u64 (f : Nat)) := by rw [← hV]; exact arc_new0 _ _ _ _
    have g1 : V.cell? ⟨W.heap.size, 1, none⟩ = some (.int .u64 (t : Nat)) := by rw [← hV]; exact arc_new1 _ _ _ _
    exact ⟨(hw.cell (p := ⟨W.heap.size, 0, none⟩) hlt).trans g0, (hw.cell (p := ⟨W.heap.size, 1, none⟩) hlt).trans g1⟩
  clear hA hAV hfine hright hlen hl ha hleft hna hnl hback hnz hV
  by_cases c0 : 60 < nz
  · have d0 : decide ((60 : Int) < (nz : Int)) = true := by simp; omega
    go_enter Try.func7, Try.ntmps7
    go_wp2_with (go_at_call 9; (with_reducible refine (CA.out _).mono ?_); rintro e w1 ⟨rfl, h1⟩)
    go_ret
    rw [HV.out] at h1
    exact ⟨rfl, acc HBX.out h1⟩
  have d0 : decide ((60 : Int) < (nz : Int)) = false := by simp; omega

  go_enter Try.func7, Try.ntmps7
  go_upto_region 7 with (first
    | (go_at_call 9; (with_reducible refine (CA.out _).mono ?_); rintro e w1 ⟨rfl, h1⟩; rw [HV.out] at h1; have B1 := Lib.hid h1; clear h1)
    | (go_at_call 10; (with_reducible refine (CF.out _ B1.out).mono ?_); rintro e w2 ⟨gs, gr, Fr, rfl, h2, r2⟩; obtain ⟨y0, y1⟩ := HVC.out _ h2.1; have H2 := Lib.hid h2; have R2 := Lib.hid r2; clear h2 r2)
    | (go_at_call 12; (with_reducible refine (CO.out _ _ _ H2.out).mono ?_); rintro e w3 ⟨A3, c3, rfl, r3, h3, k3⟩; have R3 := Lib.hid (k3.rs R2.out (by simp) (fun q hq => by simp [hq])); have H3 := Lib.hid h3; have HO3 := Lib.hid (own_mono r3 (Nat.zero_le _)); clear r3 h3 k3))
  obtain ⟨LA, lc, ⟨g1, -, g2, -, -⟩, g3, g4, g5⟩ := R3.out
  have s2 : w3.drew.cell? ⟨gr, 1, none⟩ = some (.slice LA l.length lc) := g2
  rw [HN.out] at s2 g3 g4
  have HL2 : Hid (w3.drew.ownsRow 0 39 2 (.slice LA nl lc) nl (itemCells l)) := (Touch.refl [] w3).drew.row (by rw [← HN.out]; rw [← HN.out] at g3; exact g3) (by simp)
  have HP2 : Hid (S1 V w3.drew (gr :: Fr ++ (Value.slice A3 na c3).ownBlock.toList) gs 200 left) := H3.out.below (Below.refl _ _).drew
  have HR2 : Hid (w3.drew.ownsRow 0 39 2 (.slice A3 na c3) na (itemCells a)) := (Touch.refl [] w3).drew.row HO3.out (by simp)
  have HM2 : Hid (∀ q, (Value.slice A3 na c3).ownBlock = some q → q ∈ gr :: Fr ++ (Value.slice A3 na c3).ownBlock.toList) := fun q hq => List.mem_append_right _ (by simp [hq])
  have HLB : Hid (∀ q, (Value.slice LA nl lc).ownBlock = some q → q ∈ gr :: Fr ++ (Value.slice A3 na c3).ownBlock.toList) := fun q hq => List.mem_append_left _ (by simp [g4 q hq])
  have HKC : Hid (∀ w w', Kp (gr :: Fr ++ (Value.slice A3 na c3).ownBlock.toList) w w' → w.cell? ⟨gr, 1, none⟩ = some (.slice LA nl lc) → w'.cell? ⟨gr, 1, none⟩ = some (.slice LA nl lc)) := fun w w' ⟨G, tG, hG⟩ h => cellKeep h tG (hG gr (by simp))
  clear g1 g2 g3 g4 g5 y0 y1
  refine wp_region_held_drew (S := (fun w' => w'.cell? ⟨gr, 1, none⟩ = some (.slice LA nl lc))) (by kernel_rfl) ?_ (fun hHeld => ?_)
  · (try dsimp only); exact s2
  refine wpAnyH_take (i := 0) (oi := ⟨_, _, _, _, _, _⟩) (v := ?_) rfl (by kernel_rfl) (by kernel_rfl) (by kernel_rfl) (fun _ _ _ h => h) (Or.inl ⟨by rfl, ?_⟩) (by assumption) ?_
  rotate_left
  · (intro wS hSw; (try dsimp only at hSw); go_simp <;> with_reducible rfl)
  try simp only [Act.put, List.setIfInBounds_toArray, List.set_cons_zero, List.set_cons_succ]
  refine wpAnyH_take (i := 1) (oi := ⟨_, _, _, _, _, _⟩) (v := ?_) rfl (by kernel_rfl) (by kernel_rfl) (by kernel_rfl) (fun _ _ _ h => h) (Or.inl ⟨by rfl, ?_⟩) (by assumption) ?_
  rotate_left
  · (intro wS hSw; (try dsimp only at hSw); go_simp <;> with_reducible rfl)
  try simp only [Act.put, List.setIfInBounds_toArray, List.set_cons_zero, List.set_cons_succ]
  refine wpAnyH_ready (rs := [2]) (by kernel_rfl) (by simp) ?_
  refine AllReadyH.cons (o := ⟨_, _, _, _, _, _⟩) rfl (fun K hK => ?_) AllReadyH.nil
  go_simp
  (first | (go_at_call 13; (with_reducible refine (CI.out _ _ _ _ _ HP2.out HR2.out HM2.out).mono ?_); rintro e w3 ⟨rfl, h3, k3⟩; have s3 := HKC.out _ _ k3 hHeld; have HL3 := Lib.hid (k3.row HL2.out HLB.out); have H3 := Lib.hid h3; clear h3 k3) | (go_at_call 22; (with_reducible refine ((H3.out).items).mono ?_); rintro e w4 ⟨A4, c4, rfl, r4, h4, b4⟩; have s4 := (b4.cell (p := ⟨gr, 1, none⟩) (World.block_lt_of_cell? w3 _ s3)).trans s3; have HL4 := Lib.hid (own_keep HL3.out b4); have HR4 := Lib.hid (own_mono r4 (Nat.zero_le _)); have H4 := Lib.hid h4; rw [HN.out] at HR4 ⊢; clear r4 h4 b4) | (go_at_call 19; (with_reducible refine (CS.out _ _ _ _ _ HR4.out HL4.out).mono ?_); rintro e w5 ⟨rfl, k5, rfl⟩; have s5 : (w4.drewN k5).cell? ⟨gr, 1, none⟩ = some (.slice LA nl lc) := s4))
  go_wp2_with fail
  refine hK.out _ _ (by (try dsimp only); (first | assumption)) (fun hHeld => ?_)
  clear hK K
  try simp only [Act.put, List.setIfInBounds_toArray, List.set_cons_zero, List.set_cons_succ]
  refine wpAnyH_take (i := 3) (oi := ⟨_, _, _, _, _, _⟩) (v := ?_) rfl (by kernel_rfl) (by kernel_rfl) (by kernel_rfl) (fun _ _ _ h => h) (Or.inl ⟨by rfl, ?_⟩) (by assumption) ?_
  rotate_left
  · (intro wS hSw; (try dsimp only at hSw); go_simp <;> with_reducible rfl)
  try simp only [Act.put, List.setIfInBounds_toArray, List.set_cons_zero, List.set_cons_succ]
  refine wpAnyH_take (i := 4) (oi := ⟨_, _, _, _, _, _⟩) (v := ?_) rfl (by kernel_rfl) (by kernel_rfl) (by kernel_rfl) (fun _ _ _ h => h) (Or.inl ⟨by rfl, ?_⟩) (by assumption) ?_
  rotate_left
  · (intro wS hSw; (try dsimp only at hSw); go_simp <;> with_reducible rfl)
  try simp only [Act.put, List.setIfInBounds_toArray, List.set_cons_zero, List.set_cons_succ]
  refine wpAnyH_take (i := 5) (oi := ⟨_, _, _, _, _, _⟩) (v := ?_) rfl (by kernel_rfl) (by kernel_rfl) (by kernel_rfl) (fun _ _ _ h => h) (Or.inl ⟨by rfl, ?_⟩) (by assumption) ?_
  rotate_left
  · (intro wS hSw; (try dsimp only at hSw); go_simp <;> with_reducible rfl)
  try simp only [Act.put, List.setIfInBounds_toArray, List.set_cons_zero, List.set_cons_succ]
  refine wpAnyH_take (i := 7) (oi := ⟨_, _, _, _, _, _⟩) (v := ?_) rfl (by kernel_rfl) (by kernel_rfl) (by kernel_rfl) (fun _ _ _ h => h) (Or.inl ⟨by rfl, ?_⟩) (by assumption) ?_
  rotate_left
  · (intro wS hSw; (try dsimp only at hSw); go_simp <;> with_reducible rfl)
  try simp only [Act.put, List.setIfInBounds_toArray, List.set_cons_zero, List.set_cons_succ]
  refine wpAnyH_take (i := 8) (oi := ⟨_, _, _, _, _, _⟩) (v := ?_) rfl (by kernel_rfl) (by kernel_rfl) (by kernel_rfl) (fun _ _ _ h => h) (Or.inl ⟨by rfl, ?_⟩) (by assumption) ?_
  rotate_left
  · (intro wS hSw; (try dsimp only at hSw); go_simp <;> with_reducible rfl)
  try simp only [Act.put, List.setIfInBounds_toArray, List.set_cons_zero, List.set_cons_succ]
  refine wpAnyH_take (i := 9) (oi := ⟨_, _, _, _, _, _⟩) (v := ?_) rfl (by kernel_rfl) (by kernel_rfl) (by kernel_rfl) (fun _ _ _ h => h) (Or.inl ⟨by rfl, ?_⟩) (by assumption) ?_
  rotate_left
  · (intro wS hSw; (try dsimp only at hSw); go_simp <;> with_reducible rfl)
  try simp only [Act.put, List.setIfInBounds_toArray, List.set_cons_zero, List.set_cons_succ]
  refine wpAnyH_take (i := 10) (oi := ⟨_, _, _, _, _, _⟩) (v := ?_) rfl (by kernel_rfl) (by kernel_rfl) (by kernel_rfl) (fun _ _ _ h => h) (Or.inl ⟨by rfl, ?_⟩) (by assumption) ?_
  rotate_left
  · (intro wS hSw; (try dsimp only at hSw); go_simp <;> with_reducible rfl)
  try simp only [Act.put, List.setIfInBounds_toArray, List.set_cons_zero, List.set_cons_succ]
  refine wpAnyH_ready (rs := [6]) (by kernel_rfl) (by simp) ?_
  refine AllReadyH.cons (o := ⟨_, _, _, _, _, _⟩) rfl (fun K hK => ?_) AllReadyH.nil
  go_simp
  (first | (go_at_call 13; (with_reducible refine (CI.out _ _ _ _ _ HP2.out HR2.out HM2.out).mono ?_); rintro e w3 ⟨rfl, h3, k3⟩; have s3 := HKC.out _ _ k3 hHeld; have HL3 := Lib.hid (k3.row HL2.out HLB.out); have H3 := Lib.hid h3; clear h3 k3) | (go_at_call 22; (with_reducible refine ((H3.out).items).mono ?_); rintro e w4 ⟨A4, c4, rfl, r4, h4, b4⟩; have s4 := (b4.cell (p := ⟨gr, 1, none⟩) (World.block_lt_of_cell? w3 _ s3)).trans s3; have HL4 := Lib.hid (own_keep HL3.out b4); have HR4 := Lib.hid (own_mono r4 (Nat.zero_le _)); have H4 := Lib.hid h4; rw [HN.out] at HR4 ⊢; clear r4 h4 b4) | (go_at_call 19; (with_reducible refine (CS.out _ _ _ _ _ HR4.out HL4.out).mono ?_); rintro e w5 ⟨rfl, k5, rfl⟩; have s5 : (w4.drewN k5).cell? ⟨gr, 1, none⟩ = some (.slice LA nl lc) := s4))
  go_wp2_with fail
  refine hK.out _ _ (by (try dsimp only); (first | assumption)) (fun hHeld => ?_)
  clear hK K
  try simp only [Act.put, List.setIfInBounds_toArray, List.set_cons_zero, List.set_cons_succ]
  refine wpAnyH_ready (rs := [11]) (by kernel_rfl) (by simp) ?_
  refine AllReadyH.cons (o := ⟨_, _, _, _, _, _⟩) rfl (fun K hK => ?_) AllReadyH.nil
  go_simp
  (first | (go_at_call 13; (with_reducible refine (CI.out _ _ _ _ _ HP2.out HR2.out HM2.out).mono ?_); rintro e w3 ⟨rfl, h3, k3⟩; have s3 := HKC.out _ _ k3 hHeld; have HL3 := Lib.hid (k3.row HL2.out HLB.out); have H3 := Lib.hid h3; clear h3 k3) | (go_at_call 22; (with_reducible refine ((H3.out).items).mono ?_); rintro e w4 ⟨A4, c4, rfl, r4, h4, b4⟩; have s4 := (b4.cell (p := ⟨gr, 1, none⟩) (World.block_lt_of_cell? w3 _ s3)).trans s3; have HL4 := Lib.hid (own_keep HL3.out b4); have HR4 := Lib.hid (own_mono r4 (Nat.zero_le _)); have H4 := Lib.hid h4; rw [HN.out] at HR4 ⊢; clear r4 h4 b4) | (go_at_call 19; (with_reducible refine (CS.out _ _ _ _ _ HR4.out HL4.out).mono ?_); rintro e w5 ⟨rfl, k5, rfl⟩; have s5 : (w4.drewN k5).cell? ⟨gr, 1, none⟩ = some (.slice LA nl lc) := s4))
  go_wp2_with fail
  refine hK.out _ _ (by (try dsimp only); (first | assumption)) (fun hHeld => ?_)
  clear hK K
  try simp only [Act.put, List.setIfInBounds_toArray, List.set_cons_zero, List.set_cons_succ]
  refine wpAnyH_take (i := 12) (oi := ⟨_, _, _, _, _, _⟩) (v := ?_) rfl (by kernel_rfl) (by kernel_rfl) (by kernel_rfl) (fun _ _ _ h => h) (Or.inl ⟨by rfl, ?_⟩) (by assumption) ?_
  rotate_left
  · (intro wS hSw; (try dsimp only at hSw); go_simp <;> with_reducible rfl)
  try simp only [Act.put, List.setIfInBounds_toArray, List.set_cons_zero, List.set_cons_succ]
  refine wpAnyH_take (i := 13) (oi := ⟨_, _, _, _, _, _⟩) (v := ?_) rfl (by kernel_rfl) (by kernel_rfl) (by kernel_rfl) (fun _ _ _ h => h) (Or.inl ⟨by rfl, ?_⟩) (by assumption) ?_
  rotate_left
  · (intro wS hSw; (try dsimp only at hSw); go_simp <;> with_reducible rfl)
  try simp only [Act.put, List.setIfInBounds_toArray, List.set_cons_zero, List.set_cons_succ]
  refine wpAnyH_done (by kernel_rfl) ?_ _
  go_wp2_with fail
  go_ret
  exact ⟨rfl, acc HBX.out (acc H4.out.1 (((Touch.refl [] w4).drewN k5).below (Nat.le_refl _) (by simp)))⟩
end Go.Proofs.Ytojiblhaiokdcaa
