/-
  The library's CompactFunc over a view's parts: those alike that follow one another become one. (Written by tools/genVC.py.)
-/
import Derived.Test.YthjhfnbcfgkehaaViewRow
import Derived.Deep.DeepCutAuto
import Derived.Deep.RegionHeld
namespace Go.Proofs.Ythjhfnbcfgkehaa
open Go.RowKit

theorem dda_snoc (q : PT) : ∀ (l : List PT) (d : PT), dda d (l ++ [q]) = dda d l ++ (if (l.getLastD d).v = q.v then [] else [q])
  | [], d => by simp [dda]
  | a :: l, d => by
    show (if d.v = a.v then dda a (l ++ [q]) else a :: dda a (l ++ [q])) = (if d.v = a.v then dda a l else a :: dda a l) ++ _
    rw [dda_snoc q l a, List.getLastD_cons]
    split <;> rfl
theorem dd_snoc {P : List PT} {k : Nat} {a b : PT} (ha : P[k]? = some a) (hb : P[k - 1]? = some b) (hk : 1 ≤ k) : dd (P.take (k + 1)) = dd (P.take k) ++ (if likeB a b = true then [] else [a]) := by
  have e1 : P.take (k + 1) = P.take k ++ [a] := by rw [List.take_add_one, ha]; rfl
  have e2 : P.take k = P.take (k - 1) ++ [b] := by
    have : k = k - 1 + 1 := by omega
    rw [this, List.take_add_one, ← this, hb]; rfl
  have e3 : (if likeB a b = true then ([] : List PT) else [a]) = if b.v = a.v then [] else [a] := by
    by_cases z : b.v = a.v
    · rw [if_pos z, if_pos (likeB_iff.2 z.symm)]
    · rw [if_neg z, if_neg (fun w => z (likeB_iff.1 w).symm)]
  rw [e1, e3]
  cases hP : P.take k with
  | nil => rw [e2] at hP; simp at hP
  | cons p r =>
    show p :: dda p (r ++ [a]) = p :: dda p r ++ _
    rw [dda_snoc, List.cons_append]
    have : r.getLastD p = b := by
      have h1 : (p :: r).getLast? = some b := by rw [← hP, e2]; simp
      rw [List.getLast?_cons] at h1
      rw [List.getLastD_eq_getLast?]
      exact Option.some.inj h1
    rw [this]
def CompactPost (W : World) (base : Nat) (A : Option Addr) (n c : Nat) (P : List PT) (e : Ending) (w' : World) : Prop :=
  ∃ m, e = .returned (.slice A m c) ∧ PtRow w' base (.slice A m c) m (dd P) ∧ Touch ((Value.slice A n c).ownBlock.toList) W w'
set_option maxRecDepth 100000 in
set_option maxHeartbeats 4000000 in
theorem compact_any (P : List PT) (A : Option Addr) (c n base : Nat) (W : World) (hl : n ≤ 200000) (hr : PtRow W base (.slice A n c) n P) :
    Calls Try.prog 32 #[.slice A n c, .func (.func 33) #[] #[]] W (CompactPost W base A n c P) := by
  have hn := pr_len hr
  have hi : ∀ a w, (callFunc 33 a).run Try.prog w = .ok (.enter 33 a) w := fun _ _ => by kernel_rfl
  have hsz : (Try.prog.info? 50).map (·.size) = some 3 := pt_info
  by_cases h2 : n < 2
  · have d2 : decide ((n : Int) < 2) = true := decide_eq_true (by omega)
    have HF : Hid (CompactPost W base A n c P (.returned (.slice A n c)) W) := by
      refine ⟨n, rfl, ?_, Touch.refl _ _⟩
      have : dd P = P := by
        match P, hn with
        | [], _ => rfl
        | [p], _ => rfl
        | p :: q :: r, hn => simp at hn; omega
      rw [this]
      exact hr
    clear hr hn
    go_enter Try.func32, Try.ntmps32
    go_wp2_with fail
    go_ret
    exact HF.out
  have d2 : decide ((n : Int) < 2) = false := decide_eq_false (by omega)
  obtain ⟨g, rfl⟩ := pr_at hr (by omega)
  have hnc : n ≤ c ∧ c ≤ 9223372036854775807 := by
    obtain ⟨_, _, a, b, _⟩ := own_raw hr
    exact ⟨a, Nat.le_trans b (by decide)⟩
  have HN := Lib.hid hn
  have HW := Lib.hid hr
  obtain ⟨hnc, hc9⟩ := hnc
  clear hn hr
  go_enter Try.func32, Try.ntmps32
  go_wp2_with fail
  go_loopg [5] n (fun gh s5 wx => ∃ k : Nat, k + gh = n + 1 ∧ 1 ≤ k ∧ k ≤ n ∧ s5 = .int .i64 (k : Nat) ∧ Hid (Below W.heap.size W wx) ∧ Hid (dd (P.take k) = P.take k))
  case atStart => exact ⟨1, by omega, by omega, by omega, rfl, Below.refl _ _, by cases P <;> rfl⟩
  case round =>
    obtain ⟨k, hkg, hk1, hkn, rfl, HB, HD⟩ := hrel
    by_cases hlt : k < n
    · have i1 : (k : Int) < (n : Int) := by omega
      obtain ⟨a, ha⟩ : ∃ a, P[k]? = some a := ⟨_, List.getElem?_eq_getElem (by rw [HN.out]; exact hlt)⟩
      obtain ⟨m, hm⟩ : ∃ m, k - 1 = m := ⟨_, rfl⟩
      have hkw : IntKind.i64.wrap ((k : Int) - 1) = (m : Nat) := by rw [IntKind.wrap_i64]; omega
      have hm1 : (m : Int) < (n : Int) := by omega
      obtain ⟨b, hb⟩ : ∃ b, P[m]? = some b := ⟨_, List.getElem?_eq_getElem (by rw [HN.out]; omega)⟩
      have HSS : Hid (∀ w', Below wr.heap.size wr w' → w'.rangeAt g (k * 3) a.cells.toList ∧ w'.rangeAt g (m * 3) b.cells.toList) := fun w' h => by
        have r1 := pr_below HW.out (acc HB.out h)
        exact ⟨pr_range r1 ha, pr_range r1 hb⟩
      have HDS := Lib.hid (dd_snoc ha (by rw [hm]; exact hb) hk1)
      have HA := Lib.hid ha
      obtain ⟨bb, hbb⟩ : ∃ bb, likeB a b = bb := ⟨_, rfl⟩
      have HBB := Lib.hid hbb
      have HM := Lib.hid hm
      clear ha hb hbb hm
      go_upto_region 6 with fail
      refine wp_region_held_drew (S := (fun w0 => w0.rangeAt g (k * 3) a.cells.toList ∧ w0.rangeAt g (m * 3) b.cells.toList)) (by kernel_rfl) ?_ (fun hHeld => ?_)
      · (try dsimp only); exact HSS.out _ (Below.refl _ _).drew
      refine wpAnyH_take (i := 0) (oi := ⟨_, _, _, _, _, _⟩) (v := ?_) rfl (by kernel_rfl) (by kernel_rfl) (by kernel_rfl) (fun _ _ _ h => h) (Or.inl ⟨by rfl, ?_⟩) (by assumption) ?_
      rotate_left
      · (intro wS hSw; (try dsimp only at hSw); go_simp <;> with_reducible rfl)
      try simp only [Act.put, List.setIfInBounds_toArray, List.set_cons_zero, List.set_cons_succ]
      refine wpAnyH_take (i := 1) (oi := ⟨_, _, _, _, _, _⟩) (v := ?_) rfl (by kernel_rfl) (by kernel_rfl) (by kernel_rfl) (fun _ _ _ h => h) (Or.inl ⟨by rfl, ?_⟩) (by assumption) ?_
      rotate_left
      · (intro wS hSw; (try dsimp only at hSw); go_simp <;> with_reducible rfl)
      try simp only [Act.put, List.setIfInBounds_toArray, List.set_cons_zero, List.set_cons_succ]
      refine wpAnyH_take (i := 2) (oi := ⟨_, _, _, _, _, _⟩) (v := ?_) rfl (by kernel_rfl) (by kernel_rfl) (by kernel_rfl) (fun _ _ _ h => h) (Or.inl ⟨by rfl, ?_⟩) (by assumption) ?_
      rotate_left
      · (intro wS hSw; (try dsimp only at hSw); go_simp <;> with_reducible rfl)
      try simp only [Act.put, List.setIfInBounds_toArray, List.set_cons_zero, List.set_cons_succ]
      refine wpAnyH_take (i := 3) (oi := ⟨_, _, _, _, _, _⟩) (v := ?_) rfl (by kernel_rfl) (by kernel_rfl) (by kernel_rfl) (fun _ _ _ h => h) (Or.inl ⟨by rfl, ?_⟩) (by assumption) ?_
      rotate_left
      · (intro wS hSw; (try dsimp only at hSw); go_simp <;> with_reducible rfl)
      try simp only [Act.put, List.setIfInBounds_toArray, List.set_cons_zero, List.set_cons_succ]
      refine wpAnyH_take (i := 4) (oi := ⟨_, _, _, _, _, _⟩) (v := .agg a.cells.toList.toArray) rfl (by kernel_rfl) (by kernel_rfl) (by kernel_rfl) (fun _ _ _ h => h) (yieldsIf_load_mid (by rfl) 50 (.tmp 21) rfl g (k * 3) rfl a.cells.toList _ (fun _ h => h.1) Try.underlying50 rfl hsz) (by assumption) ?_
      try simp only [Act.put, List.setIfInBounds_toArray, List.set_cons_zero, List.set_cons_succ]
      refine wpAnyH_take (i := 5) (oi := ⟨_, _, _, _, _, _⟩) (v := ?_) rfl (by kernel_rfl) (by kernel_rfl) (by kernel_rfl) (fun _ _ _ h => h) (Or.inl ⟨by rfl, ?_⟩) (by assumption) ?_
      rotate_left
      · (intro wS hSw; (try dsimp only at hSw); go_simp <;> with_reducible rfl)
      try simp only [Act.put, List.setIfInBounds_toArray, List.set_cons_zero, List.set_cons_succ]
      refine wpAnyH_take (i := 6) (oi := ⟨_, _, _, _, _, _⟩) (v := ?_) rfl (by kernel_rfl) (by kernel_rfl) (by kernel_rfl) (fun _ _ _ h => h) (Or.inl ⟨by rfl, ?_⟩) (by assumption) ?_
      rotate_left
      · (intro wS hSw; (try dsimp only at hSw); go_simp <;> with_reducible rfl)
      try simp only [Act.put, List.setIfInBounds_toArray, List.set_cons_zero, List.set_cons_succ]
      refine wpAnyH_take (i := 7) (oi := ⟨_, _, _, _, _, _⟩) (v := ?_) rfl (by kernel_rfl) (by kernel_rfl) (by kernel_rfl) (fun _ _ _ h => h) (Or.inl ⟨by rfl, ?_⟩) (by assumption) ?_
      rotate_left
      · (intro wS hSw; (try dsimp only at hSw); go_simp <;> with_reducible rfl)
      try simp only [Act.put, List.setIfInBounds_toArray, List.set_cons_zero, List.set_cons_succ]
      refine wpAnyH_take (i := 8) (oi := ⟨_, _, _, _, _, _⟩) (v := ?_) rfl (by kernel_rfl) (by kernel_rfl) (by kernel_rfl) (fun _ _ _ h => h) (Or.inl ⟨by rfl, ?_⟩) (by assumption) ?_
      rotate_left
      · (intro wS hSw; (try dsimp only at hSw); go_simp <;> with_reducible rfl)
      try simp only [Act.put, List.setIfInBounds_toArray, List.set_cons_zero, List.set_cons_succ]
      refine wpAnyH_take (i := 9) (oi := ⟨_, _, _, _, _, _⟩) (v := .agg b.cells.toList.toArray) rfl (by kernel_rfl) (by kernel_rfl) (by kernel_rfl) (fun _ _ _ h => h) (yieldsIf_load_mid (by rfl) 50 (.tmp 26) rfl g (m * 3) rfl b.cells.toList _ (fun _ h => h.2) Try.underlying50 rfl hsz) (by assumption) ?_
      try simp only [Act.put, List.setIfInBounds_toArray, List.set_cons_zero, List.set_cons_succ]
      refine wpAnyH_ready (rs := [10]) (by kernel_rfl) (by simp) ?_
      refine AllReadyH.cons (o := ⟨_, _, _, _, _, _⟩) rfl (fun K hK => ?_) AllReadyH.nil
      go_simp
      (first | (go_at_call 33; (with_reducible refine (alike_any a b _).mono ?_); rintro e w2 ⟨rfl, hb2⟩; rw [HBB.out]; have HB2 : Hid (Below wr.heap.size wr w2) := ((Below.refl wr.heap.size wr).drew).trans hb2; clear hb2))
      go_wp2_with fail
      refine hK.out _ _ (by (try dsimp only); exact HSS.out _ HB2.out) (fun hHeld => ?_)
      clear hK K
      try simp only [Act.put, List.setIfInBounds_toArray, List.set_cons_zero, List.set_cons_succ]
      refine wpAnyH_done (by kernel_rfl) ?_ _
      cases bb
      · go_wp2_with fail
        go_roundg (gk - 1)
        case measure => omega
        case rel => exact ⟨k + 1, by omega, by omega, by omega, by go_num, acc HB.out HB2.out, by
          rw [HDS.out, HBB.out, if_neg (by simp), HD.out, List.take_add_one, HA.out]; rfl⟩
      · have b1 : ¬ c = k := by omega
        have b2 : k ≤ c := by omega
        have b3 : (k : Int) ≤ (n : Int) := by omega
        have b4 : k ≤ n := by omega
        go_wp2_with fail
        have HB3 := Lib.hid (acc HB.out HB2.out)
        have HR0 := Lib.hid (pr_below HW.out HB3.out)
        have HD0 : Hid (P.take k = dd (P.take (k + 1))) := by
          show P.take k = dd (P.take (k + 1))
          rw [HDS.out, HBB.out, if_pos rfl, HD.out, List.append_nil]
        clear HSS HDS HBB HA hkw hm1 i1 HM hkg HD
        go_loopg [5, 7] (n - k) (fun gh s5 s7 wx => ∃ (q k2 : Nat) (Q : List PT), k + k2 + gh = n + 1 ∧ 1 ≤ k2 ∧ k + k2 ≤ n ∧ q + 1 ≤ k + k2 ∧ s5 = .int .i64 (q : Nat) ∧ s7 = .int .i64 (k2 : Nat) ∧ Hid (Touch [g] W wx) ∧ Hid (PtRow wx base (.slice (some ⟨g, 0, none⟩) n c) n Q) ∧ Hid (Q.take q = dd (P.take (k + k2))) ∧ Hid (Q.drop (k + k2 - 1) = P.drop (k + k2 - 1)))
        case atStart => exact ⟨k, 1, P, by omega, by omega, by omega, by omega, rfl, rfl, Touch.ofBelow HB3.out, HR0.out, HD0.out, rfl⟩
        case round =>
          obtain ⟨q, k2, Q, hqg, hk2, hk3, hqk, rfl, rfl, HT, HR, HQ, HL⟩ := hrel
          have HQN := Lib.hid (pr_len HR.out)
          by_cases hlt2 : k + k2 < n
          · have i2 : (k2 : Int) < ((n - k : Nat) : Int) := by omega
            have hat : ∀ i, k + k2 - 1 ≤ i → Q[i]? = P[i]? := fun i hi => by
              have e := HL.out
              have h1 : (Q.drop (k + k2 - 1))[i - (k + k2 - 1)]? = (P.drop (k + k2 - 1))[i - (k + k2 - 1)]? := by rw [e]
              rw [List.getElem?_drop, List.getElem?_drop, show k + k2 - 1 + (i - (k + k2 - 1)) = i by omega] at h1
              exact h1
            obtain ⟨a, ha⟩ : ∃ a, P[k + k2]? = some a := ⟨_, List.getElem?_eq_getElem (by rw [HN.out]; exact hlt2)⟩
            obtain ⟨m, hm⟩ : ∃ m, k2 - 1 = m := ⟨_, rfl⟩
            have hkw : IntKind.i64.wrap ((k2 : Int) - 1) = (m : Nat) := by rw [IntKind.wrap_i64]; omega
            have hm1 : (m : Int) < ((n - k : Nat) : Int) := by omega
            obtain ⟨b, hb⟩ : ∃ b, P[k + m]? = some b := ⟨_, List.getElem?_eq_getElem (by rw [HN.out]; omega)⟩
            have HSS : Hid (∀ w', Below wr.heap.size wr w' → w'.rangeAt g (k * 3 + k2 * 3) a.cells.toList ∧ w'.rangeAt g (k * 3 + m * 3) b.cells.toList) := fun w' h => by
              have r1 := pr_below HR.out h
              have h1 := pr_range r1 ((hat (k + k2) (by omega)).trans ha)
              have h2 := pr_range r1 ((hat (k + m) (by omega)).trans hb)
              rw [Nat.add_mul] at h1 h2
              exact ⟨h1, h2⟩
            have HDS := Lib.hid (dd_snoc ha (by rw [show k + k2 - 1 = k + m by omega]; exact hb) (by omega))
            obtain ⟨bb, hbb⟩ : ∃ bb, likeB a b = bb := ⟨_, rfl⟩
            have HBB := Lib.hid hbb
            have HL2 : Hid (Q.drop (k + k2) = P.drop (k + k2)) := by
              have e := congrArg (List.drop 1) HL.out
              rw [List.drop_drop, List.drop_drop, show k + k2 - 1 + 1 = k + k2 by omega] at e
              exact e
            clear ha hb hbb hm hat HD0 HR0
            go_upto_region 11 with fail
            refine wp_region_held_drew (S := (fun w0 => w0.rangeAt g (k * 3 + k2 * 3) a.cells.toList ∧ w0.rangeAt g (k * 3 + m * 3) b.cells.toList)) (by kernel_rfl) ?_ (fun hHeld => ?_)
            · (try dsimp only); exact HSS.out _ (Below.refl _ _).drew
            refine wpAnyH_take (i := 0) (oi := ⟨_, _, _, _, _, _⟩) (v := ?_) rfl (by kernel_rfl) (by kernel_rfl) (by kernel_rfl) (fun _ _ _ h => h) (Or.inl ⟨by rfl, ?_⟩) (by assumption) ?_
            rotate_left
            · (intro wS hSw; (try dsimp only at hSw); go_simp <;> with_reducible rfl)
            try simp only [Act.put, List.setIfInBounds_toArray, List.set_cons_zero, List.set_cons_succ]
            refine wpAnyH_take (i := 1) (oi := ⟨_, _, _, _, _, _⟩) (v := ?_) rfl (by kernel_rfl) (by kernel_rfl) (by kernel_rfl) (fun _ _ _ h => h) (Or.inl ⟨by rfl, ?_⟩) (by assumption) ?_
            rotate_left
            · (intro wS hSw; (try dsimp only at hSw); go_simp <;> with_reducible rfl)
            try simp only [Act.put, List.setIfInBounds_toArray, List.set_cons_zero, List.set_cons_succ]
            refine wpAnyH_take (i := 2) (oi := ⟨_, _, _, _, _, _⟩) (v := ?_) rfl (by kernel_rfl) (by kernel_rfl) (by kernel_rfl) (fun _ _ _ h => h) (Or.inl ⟨by rfl, ?_⟩) (by assumption) ?_
            rotate_left
            · (intro wS hSw; (try dsimp only at hSw); go_simp <;> with_reducible rfl)
            try simp only [Act.put, List.setIfInBounds_toArray, List.set_cons_zero, List.set_cons_succ]
            refine wpAnyH_take (i := 3) (oi := ⟨_, _, _, _, _, _⟩) (v := ?_) rfl (by kernel_rfl) (by kernel_rfl) (by kernel_rfl) (fun _ _ _ h => h) (Or.inl ⟨by rfl, ?_⟩) (by assumption) ?_
            rotate_left
            · (intro wS hSw; (try dsimp only at hSw); go_simp <;> with_reducible rfl)
            try simp only [Act.put, List.setIfInBounds_toArray, List.set_cons_zero, List.set_cons_succ]
            refine wpAnyH_take (i := 4) (oi := ⟨_, _, _, _, _, _⟩) (v := .agg a.cells.toList.toArray) rfl (by kernel_rfl) (by kernel_rfl) (by kernel_rfl) (fun _ _ _ h => h) (yieldsIf_load_mid (by rfl) 50 (.tmp 41) rfl g (k * 3 + k2 * 3) rfl a.cells.toList _ (fun _ h => h.1) Try.underlying50 rfl hsz) (by assumption) ?_
            try simp only [Act.put, List.setIfInBounds_toArray, List.set_cons_zero, List.set_cons_succ]
            refine wpAnyH_take (i := 5) (oi := ⟨_, _, _, _, _, _⟩) (v := ?_) rfl (by kernel_rfl) (by kernel_rfl) (by kernel_rfl) (fun _ _ _ h => h) (Or.inl ⟨by rfl, ?_⟩) (by assumption) ?_
            rotate_left
            · (intro wS hSw; (try dsimp only at hSw); go_simp <;> with_reducible rfl)
            try simp only [Act.put, List.setIfInBounds_toArray, List.set_cons_zero, List.set_cons_succ]
            refine wpAnyH_take (i := 6) (oi := ⟨_, _, _, _, _, _⟩) (v := ?_) rfl (by kernel_rfl) (by kernel_rfl) (by kernel_rfl) (fun _ _ _ h => h) (Or.inl ⟨by rfl, ?_⟩) (by assumption) ?_
            rotate_left
            · (intro wS hSw; (try dsimp only at hSw); go_simp <;> with_reducible rfl)
            try simp only [Act.put, List.setIfInBounds_toArray, List.set_cons_zero, List.set_cons_succ]
            refine wpAnyH_take (i := 7) (oi := ⟨_, _, _, _, _, _⟩) (v := ?_) rfl (by kernel_rfl) (by kernel_rfl) (by kernel_rfl) (fun _ _ _ h => h) (Or.inl ⟨by rfl, ?_⟩) (by assumption) ?_
            rotate_left
            · (intro wS hSw; (try dsimp only at hSw); go_simp <;> with_reducible rfl)
            try simp only [Act.put, List.setIfInBounds_toArray, List.set_cons_zero, List.set_cons_succ]
            refine wpAnyH_take (i := 8) (oi := ⟨_, _, _, _, _, _⟩) (v := ?_) rfl (by kernel_rfl) (by kernel_rfl) (by kernel_rfl) (fun _ _ _ h => h) (Or.inl ⟨by rfl, ?_⟩) (by assumption) ?_
            rotate_left
            · (intro wS hSw; (try dsimp only at hSw); go_simp <;> with_reducible rfl)
            try simp only [Act.put, List.setIfInBounds_toArray, List.set_cons_zero, List.set_cons_succ]
            refine wpAnyH_take (i := 9) (oi := ⟨_, _, _, _, _, _⟩) (v := .agg b.cells.toList.toArray) rfl (by kernel_rfl) (by kernel_rfl) (by kernel_rfl) (fun _ _ _ h => h) (yieldsIf_load_mid (by rfl) 50 (.tmp 46) rfl g (k * 3 + m * 3) rfl b.cells.toList _ (fun _ h => h.2) Try.underlying50 rfl hsz) (by assumption) ?_
            try simp only [Act.put, List.setIfInBounds_toArray, List.set_cons_zero, List.set_cons_succ]
            refine wpAnyH_ready (rs := [10]) (by kernel_rfl) (by simp) ?_
            refine AllReadyH.cons (o := ⟨_, _, _, _, _, _⟩) rfl (fun K hK => ?_) AllReadyH.nil
            go_simp
            (first | (go_at_call 33; (with_reducible refine (alike_any a b _).mono ?_); rintro e w2 ⟨rfl, hb2⟩; rw [HBB.out]; have HB2 : Hid (Below wr.heap.size wr w2) := ((Below.refl wr.heap.size wr).drew).trans hb2; clear hb2))
            go_wp2_with fail
            refine hK.out _ _ (by (try dsimp only); exact HSS.out _ HB2.out) (fun hHeld => ?_)
            clear hK K
            try simp only [Act.put, List.setIfInBounds_toArray, List.set_cons_zero, List.set_cons_succ]
            refine wpAnyH_take (i := 11) (oi := ⟨_, _, _, _, _, _⟩) (v := ?_) rfl (by kernel_rfl) (by kernel_rfl) (by kernel_rfl) (fun _ _ _ h => h) (Or.inl ⟨by rfl, ?_⟩) (by assumption) ?_
            rotate_left
            · (intro wS hSw; (try dsimp only at hSw); go_simp <;> with_reducible rfl)
            try simp only [Act.put, List.setIfInBounds_toArray, List.set_cons_zero, List.set_cons_succ]
            refine wpAnyH_done (by kernel_rfl) ?_ _
            have HT2 := Lib.hid (HT.out.trans (Touch.ofBelow (F := []) HB2.out) (by simp))
            have HR2 := Lib.hid (pr_below HR.out HB2.out)
            cases bb
            · have q1 : (q : Int) < (n : Int) := by omega
              have hra := Lib.hid (HSS.out w2 HB2.out).1
              have hth : w2.there g (q * 3) a.cells.size := row_there HR2.out (by rw [rowC_length pt_size, HQN.out]; show q * 3 + 3 ≤ n * 3; omega)
              clear HSS HB2
              go_wp2_with (first
                | (refine wpList_load_mid rfl 50 (.tmp 54) rfl g (k * 3 + k2 * 3) rfl a.cells.toList _ hra.out Try.underlying50 rfl hsz ?_)
                | (refine wpList_store_mid rfl 50 (.tmp 56) (.tmp 55) rfl g (q * 3) a.cells rfl rfl hth hsz (pt_one a) ?_))
              have HR3 : Hid (PtRow (w2.setCells g (q * 3) a.cells.toList) base (.slice (some ⟨g, 0, none⟩) n c) n (Q.set q a)) := by
                have e := own_setCells a.cells.toList w2 (q * 3) _ HR2.out (by rw [rowC_length pt_size, HQN.out]; show q * 3 + 3 ≤ n * 3; omega)
                rw [rowC_put pt_size Q q a (by rw [HQN.out]; omega)] at e
                exact e
              have HT3 : Hid (Touch [g] W (w2.setCells g (q * 3) a.cells.toList)) := touch_setCells (by simp) _ _ _ _ HT2.out
              clear hth
              go_roundg (gk - 1)
              case measure => omega
              case rel => exact ⟨q + 1, k2 + 1, Q.set q a, by omega, by omega, by omega, by omega, by go_num, by go_num, HT3, HR3, by
                show (Q.set q a).take (q + 1) = dd (P.take (k + k2 + 1))
                rw [HDS.out, HBB.out, if_neg (by simp), ← HQ.out, List.take_add_one, List.take_set_of_le (Nat.le_refl q), List.getElem?_set_self (by rw [HQN.out]; omega)]
                rfl, by
                show (Q.set q a).drop (k + k2) = P.drop (k + k2)
                rw [List.drop_set_of_lt (by omega)]
                exact HL2.out⟩
            · clear HSS HB2
              go_wp2_with fail
              go_roundg (gk - 1)
              case measure => omega
              case rel => exact ⟨q, k2 + 1, Q, by omega, by omega, by omega, by omega, rfl, by go_num, HT2, HR2, by
                show Q.take q = dd (P.take (k + k2 + 1))
                rw [HDS.out, HBB.out, if_pos rfl, List.append_nil]
                exact HQ.out, HL2⟩
          · have hkn2 : k + k2 = n := by omega
            have i2 : ¬ (k2 : Int) < ((n - k : Nat) : Int) := by omega
            have c1 : ¬ c = q := by omega
            have c2 : q ≤ c := by omega
            have c3 : (q : Int) ≤ (n : Int) := by omega
            have c4 : q ≤ n := by omega
            have c5 : (q : Int) ≤ (c : Int) := by omega
            have ho := own_take HR.out q c4
            rw [rowC_take pt_size, HQ.out, hkn2, List.take_of_length_le (l := P) (by rw [HN.out]; exact Nat.le_refl _)] at ho
            obtain ⟨w4, hr4, ho4, hg4⟩ := clearParts ho 30 (n - q) (c - q) (by omega) (by omega)
            have HR4 := Lib.hid hr4
            have HF : Hid (CompactPost W base (some ⟨g, 0, none⟩) n c P (.returned (.slice (some ⟨g, 0, none⟩) q c)) w4) := ⟨q, rfl, ho4, HT.out.grown hg4 (fun x hx => .inl (by obtain rfl := Option.some.inj hx; simp))⟩
            clear ho hr4 ho4 hg4
            go_wp2_with (refine wpList_clear_run _ rfl _ 30 rfl (.slice (some ⟨g, q * 3, none⟩) (n - q) (c - q)) (by simp [Act.eval]) HR4.out ?_)
            go_ret
            exact HF.out
    · obtain rfl : k = n := by omega
      go_wp2_with fail
      go_ret
      refine ⟨k, rfl, ?_, Touch.ofBelow HB.out⟩
      have e := HD.out
      rw [List.take_of_length_le (by rw [HN.out]; exact Nat.le_refl _)] at e
      rw [e]
      exact pr_below HW.out HB.out
end Go.Proofs.Ythjhfnbcfgkehaa
