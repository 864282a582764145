/-
  The walk of the document's own shelf: Put.
-/
import Derived.Test.YtojiblhaiokdcaaRefShelf
import Derived.Laws.AppendOwnNone
namespace Go.Proofs.Ytojiblhaiokdcaa
open Go.RowKit

/-- what Put answers -/
def putE (most : Int) (l : List Item) (k v : ByteArray) : Int :=
  if rightN k ≠ 0 then rightN k else if valueN v ≠ 0 then valueN v else if hasN l k = false ∧ most ≤ l.length then 5 else 0
/-- what is there behind it -/
def putS (most : Int) (l : List Item) (k v : ByteArray) : List Item := if putE most l k v = 0 then putN l k v else l
def RefPutPost (W : World) (g : Nat) (F : List Nat) (most : Int) (l : List Item) (k v : ByteArray) (e : Ending) (w' : World) : Prop :=
  e = .returned (.int .i64 (putE most l k v)) ∧ Touch [g] W w' ∧ ∃ F', RS w' g F' most (putS most l k v) ∧ ∀ q, q ∈ F' → q ∈ F ∨ W.heap.size ≤ q
theorem refPut_same {W V : World} {g : Nat} {F : List Nat} {most r : Int} {l : List Item} {k v : ByteArray} (hE : putE most l k v = r) (hr : r ≠ 0) (hR : RS V g F most l) (hV : Touch [] W V) : RefPutPost W g F most l k v (.returned (.int .i64 r)) V := by
  refine ⟨by rw [hE], hV.mono (by simp), F, ?_, fun q hq => .inl hq⟩
  rw [putS, if_neg (by rw [hE]; exact hr)]
  exact hR
theorem refPut_end {W V w2 : World} {g c2 m : Nat} {F : List Nat} {most : Int} {l l2 : List Item} {k v : ByteArray} {A2 : Option Addr} {xs : List Value} (hE : putE most l k v = 0)
    (hd : putN l k v = l2) (hR : RS V g F most l) (hV : Touch [] W V) (h2 : Touch [] V w2)
    (ho : w2.ownsRow V.heap.size 39 2 (.slice A2 m c2) m xs) (hm : l2.length = m) (hxs : xs = itemCells l2) :
    RefPutPost W g F most l k v (.returned (.int .i64 0)) (w2.setCell ⟨g, 1, none⟩ (.slice A2 m c2)) := by
  subst hxs
  obtain ⟨F', a, b⟩ := hR.stored h2 ho hm
  refine ⟨by rw [hE], ((hV.trans h2 (by simp)).mono (by simp)).set (.inl (by simp)) _, F', by rw [putS, if_pos hE, hd]; exact a, fun q hq => .inr (Nat.le_trans hV.size (b q hq))⟩
set_option maxHeartbeats 1000000 in
theorem refPut_err (g : Nat) (F : List Nat) (most : Int) (l : List Item) (k v : ByteArray) (W : World) (hR : RS W g F most l) (hk : k.size ≤ maxLen) (hv : v.size ≤ maxLen) (h : rightN k ≠ 0 ∨ valueN v ≠ 0) :
    Calls Try.prog 28 #[.pointer (some ⟨g, 0, none⟩), .string k, .string v] W (RefPutPost W g F most l k v) := by
  have CK := Lib.hid (fun W => refKey_any k W hk)
  have CV := Lib.hid (fun W => refValue_any v W hv)
  by_cases h1 : rightN k = 0
  · have h2 : valueN v ≠ 0 := by rcases h with h | h; exact absurd h1 h; exact h
    have HE := Lib.hid (show putE most l k v = valueN v by rw [putE, if_neg (by simp [h1]), if_pos h2])
    rw [h1] at CK
    have H2 := Lib.hid h2
    have hb : (valueN v != 0) = true := by rw [bne_iff_ne]; exact h2
    have HR := Lib.hid hR
    clear h h1 h2 hk hv hR
    generalize valueN v = r at *
    go_enter Try.func28, Try.ntmps28
    go_wp2_with (first
      | (go_at_call 23; ((with_reducible refine (CK.out _).mono ?_); rintro e w1 ⟨rfl, rfl⟩))
      | (go_at_call 24; ((with_reducible refine (CV.out _).mono ?_); rintro e w1 ⟨rfl, rfl⟩)))
    go_ret
    exact refPut_same HE.out H2.out HR.out (Touch.refl _ _)
  · have HE := Lib.hid (show putE most l k v = rightN k by rw [putE, if_pos h1])
    have H2 := Lib.hid h1
    have hb : (rightN k != 0) = true := by rw [bne_iff_ne]; exact h1
    have HR := Lib.hid hR
    clear h h1 hk hv hR
    generalize rightN k = r at *
    go_enter Try.func28, Try.ntmps28
    go_wp2_with (go_at_call 23; ((with_reducible refine (CK.out _).mono ?_); rintro e w1 ⟨rfl, rfl⟩))
    go_ret
    exact refPut_same HE.out H2.out HR.out (Touch.refl _ _)

set_option maxRecDepth 100000 in
set_option maxHeartbeats 4000000 in
theorem refPut_ok (g : Nat) (F : List Nat) (most : Int) (l : List Item) (k v : ByteArray) (W : World) (hR : RS W g F most l) (hl : l.length ≤ 100000) (hm0 : -9223372036854775808 ≤ most) (hm1 : most ≤ 9223372036854775807)
    (hk : k.size ≤ maxLen) (hv : v.size ≤ maxLen) (h1 : rightN k = 0) (h2 : valueN v = 0) :
    Calls Try.prog 28 #[.pointer (some ⟨g, 0, none⟩), .string k, .string v] W (RefPutPost W g F most l k v) := by
  have CK := Lib.hid (fun W => refKey_any k W hk)
  have CV := Lib.hid (fun W => refValue_any v W hv)
  rw [h1] at CK
  rw [h2] at CV
  have CA := Lib.hid (refAt_any g F most l k W hR)
  have hEe : putE most l k v = if hasN l k = false ∧ most ≤ l.length then 5 else 0 := by rw [putE, if_neg (by simp [h1]), if_neg (by simp [h2])]
  have hPN : putN l k v = l.take (placeN l k) ++ (k, v) :: l.drop (if hasN l k then placeN l k + 1 else placeN l k) := rfl
  have hpl := placeN_le l k
  have hph := @hasN_lt l k
  clear h1 h2 hk hv
  obtain ⟨i0, z0, hi, hz, hs2, hb32, hzc⟩ := infoItem
  have HR := Lib.hid hR
  obtain ⟨A, c, ⟨r1, r2, r3, r4, r5⟩, h6, h7, h8⟩ := hR
  have hcap : l.length ≤ c := h6.cap
  have HRow := Lib.hid h6
  generalize placeN l k = p at *
  generalize hasN l k = b at *
  obtain ⟨n, hn⟩ : ∃ n, l.length = n := ⟨_, rfl⟩
  have HN := Lib.hid hn
  rw [hn] at r3 hpl hl hcap hEe hph
  clear h6 h7 h8 hn
  cases b
  · -- no such key
    by_cases hfull : most ≤ n
    · have HEE := Lib.hid (show putE most l k v = 5 by rw [hEe, if_pos ⟨rfl, hfull⟩])
      clear hEe hPN hph
      rcases HRow.out.nilOr with ⟨hA, hn0⟩ | ⟨q, rfl⟩
      · rw [HN.out] at hn0
        subst hn0
        injection hA with hA1 hA2 hA3
        subst hA1 hA3
        obtain rfl : p = 0 := by omega
        go_enter Try.func28, Try.ntmps28
        go_upto_region 11 with (first
          | (go_at_call 23; ((with_reducible refine (CK.out _).mono ?_); rintro e w1 ⟨rfl, rfl⟩))
          | (go_at_call 24; ((with_reducible refine (CV.out _).mono ?_); rintro e w1 ⟨rfl, rfl⟩))
          | (go_at_call 44; ((with_reducible refine (CA.out).mono ?_); rintro e w1 ⟨rfl, na, rfl⟩)))
        have HTV : Hid (Touch [] W (W.drewN na)) := (Touch.refl _ _).drewN _
        have HRS : Hid (RS (W.drewN na) g F most l) := HR.out
        have v2 : (W.drewN na).cell? ⟨g, 0, none⟩ = some (.int .i64 most) := r2
        have v3 : (W.drewN na).cell? ⟨g, 1, none⟩ = some (.slice none 0 0) := r3
        generalize W.drewN na = V at *
        clear r1 r2 r3 r4 r5 CA CK CV
        go_quiet (fail)
        go_wp2
        go_ret
        exact refPut_same HEE.out (by decide) (show RS (V.drewN _) g F most l from HRS.out) (HTV.out.drewN _)
      · have hpc : p ≤ c := by omega
        have hpn : p ≤ n := by omega
        by_cases hce : c = p
        · subst hce
          go_enter Try.func28, Try.ntmps28
          go_upto_region 11 with (first
            | (go_at_call 23; ((with_reducible refine (CK.out _).mono ?_); rintro e w1 ⟨rfl, rfl⟩))
            | (go_at_call 24; ((with_reducible refine (CV.out _).mono ?_); rintro e w1 ⟨rfl, rfl⟩))
            | (go_at_call 44; ((with_reducible refine (CA.out).mono ?_); rintro e w1 ⟨rfl, na, rfl⟩)))
          have HTV : Hid (Touch [] W (W.drewN na)) := (Touch.refl _ _).drewN _
          have HRS : Hid (RS (W.drewN na) g F most l) := HR.out
          have v2 : (W.drewN na).cell? ⟨g, 0, none⟩ = some (.int .i64 most) := r2
          have v3 : (W.drewN na).cell? ⟨g, 1, none⟩ = some (.slice (some ⟨q, 0, none⟩) n c) := r3
          generalize W.drewN na = V at *
          clear r1 r2 r3 r4 r5 CA CK CV
          go_quiet (fail)
          go_wp2
          go_ret
          exact refPut_same HEE.out (by decide) (show RS (V.drewN _) g F most l from HRS.out) (HTV.out.drewN _)
        · have hcp : ¬ c = p := hce
          go_enter Try.func28, Try.ntmps28
          go_upto_region 11 with (first
            | (go_at_call 23; ((with_reducible refine (CK.out _).mono ?_); rintro e w1 ⟨rfl, rfl⟩))
            | (go_at_call 24; ((with_reducible refine (CV.out _).mono ?_); rintro e w1 ⟨rfl, rfl⟩))
            | (go_at_call 44; ((with_reducible refine (CA.out).mono ?_); rintro e w1 ⟨rfl, na, rfl⟩)))
          have HTV : Hid (Touch [] W (W.drewN na)) := (Touch.refl _ _).drewN _
          have HRS : Hid (RS (W.drewN na) g F most l) := HR.out
          have v2 : (W.drewN na).cell? ⟨g, 0, none⟩ = some (.int .i64 most) := r2
          have v3 : (W.drewN na).cell? ⟨g, 1, none⟩ = some (.slice (some ⟨q, 0, none⟩) n c) := r3
          generalize W.drewN na = V at *
          clear r1 r2 r3 r4 r5 CA CK CV
          go_quiet (fail)
          go_wp2
          go_ret
          exact refPut_same HEE.out (by decide) (show RS (V.drewN _) g F most l from HRS.out) (HTV.out.drewN _)
    · have HEE := Lib.hid (show putE most l k v = 0 by rw [hEe, if_neg (fun h => hfull h.2)])
      have HPP := Lib.hid (show putN l k v = l.take p ++ (k, v) :: l.drop p from hPN)
      clear hEe hPN hph
      have hfull' : ¬ most ≤ (n : Int) := hfull
      rcases HRow.out.nilOr with ⟨hA, hn0⟩ | ⟨q, rfl⟩
      · rw [HN.out] at hn0
        subst hn0
        have HNIL : Hid (l = []) := List.eq_nil_of_length_eq_zero HN.out
        injection hA with hA1 hA2 hA3
        subst hA1 hA3
        obtain rfl : p = 0 := by omega
        go_enter Try.func28, Try.ntmps28
        go_upto_region 11 with (first
          | (go_at_call 23; ((with_reducible refine (CK.out _).mono ?_); rintro e w1 ⟨rfl, rfl⟩))
          | (go_at_call 24; ((with_reducible refine (CV.out _).mono ?_); rintro e w1 ⟨rfl, rfl⟩))
          | (go_at_call 44; ((with_reducible refine (CA.out).mono ?_); rintro e w1 ⟨rfl, na, rfl⟩)))
        have v2 : (W.drewN na).cell? ⟨g, 0, none⟩ = some (.int .i64 most) := r2
        have v3 : (W.drewN na).cell? ⟨g, 1, none⟩ = some (.slice none 0 0) := r3
        go_quiet (fail)
        clear v2 v3
        have HTV : Hid (Touch [] W ((W.drewN na).drewN nq)) := ((Touch.refl _ _).drewN _).drewN _
        have HRS : Hid (RS ((W.drewN na).drewN nq) g F most l) := HR.out
        have v1 : g < ((W.drewN na).drewN nq).heap.size := r1
        have v2 : ((W.drewN na).drewN nq).cell? ⟨g, 0, none⟩ = some (.int .i64 most) := r2
        have v3 : ((W.drewN na).drewN nq).cell? ⟨g, 1, none⟩ = some (.slice none 0 0) := r3
        have v5 : ((W.drewN na).drewN nq).frozen? ⟨g, 1, none⟩ = false := r5
        generalize (W.drewN na).drewN nq = V at *
        clear r1 r2 r3 r4 r5 CA CK CV
        go_wp2_with (first
          | (at_builtin; (refine wpList_append_own_none rfl (.const (.slice none 0 0)) (.tmp 58) 22 rfl V.heap.size 39 i0 2 Try.underlying22 hi (.slice none 0 0) 0 [] rfl (World.ownsRow_nil _ _ _ _) rfl ?_))
          | (at_builtin; (refine wpList_append_own _ rfl (.tmp 59) (.tmp 63) 22 rfl V.heap.size 39 i0 z0 2 32 Try.underlying22 hi hz hs2 hb32 hzc (by decide) (.slice none 0 0) 0 [] rfl (World.ownsRow_nil _ _ _ _) ⟨V.heap.size, 0, none⟩ 1 1 (itemCells [(k, v)]) rfl rfl (item_new V k v) (items_one _) (by unfold maxLen; omega) (by omega) (by have := (Touch.refl [] V).size; simp <;> omega) ?_); intro x2 w2 hown2 hg2 hnil2; simp only [Nat.zero_add, List.nil_append] at hown2; have hT2 : Touch [] V w2 := ((Touch.refl [] V).alloc _).grown hg2 (fun q hq => by cases hq); have v3' := (hT2.cell (p := ⟨g, 1, none⟩) v1 (by simp)).trans v3; have v5' := (hT2.frozen (p := ⟨g, 1, none⟩) v1 (by simp)).trans v5; have HT2 := Lib.hid hT2; have HO2 := Lib.hid hown2; clear hT2 hown2 hg2 hnil2)
          | (at_builtin; (refine wpList_append_own_none rfl (.tmp 64) (.tmp 65) 22 rfl V.heap.size 39 i0 2 Try.underlying22 hi x2 _ _ rfl HO2.out rfl ?_); obtain ⟨A3, c3, rfl⟩ := own_slice HO2.out))
        go_ret
        exact refPut_end HEE.out HPP.out HRS.out HTV.out HT2.out HO2.out (by simp [HNIL.out]) (by simp [HNIL.out, itemCells])
      · have hpc : p ≤ c := by omega
        have hpn : p ≤ n := by omega
        by_cases hce : c = p
        · subst hce
          have hdr : l.drop c = [] := List.drop_of_length_le (by rw [HN.out]; omega)
          have HDR := Lib.hid hdr
          clear hdr
          go_enter Try.func28, Try.ntmps28
          go_upto_region 11 with (first
            | (go_at_call 23; ((with_reducible refine (CK.out _).mono ?_); rintro e w1 ⟨rfl, rfl⟩))
            | (go_at_call 24; ((with_reducible refine (CV.out _).mono ?_); rintro e w1 ⟨rfl, rfl⟩))
            | (go_at_call 44; ((with_reducible refine (CA.out).mono ?_); rintro e w1 ⟨rfl, na, rfl⟩)))
          have v2 : (W.drewN na).cell? ⟨g, 0, none⟩ = some (.int .i64 most) := r2
          have v3 : (W.drewN na).cell? ⟨g, 1, none⟩ = some (.slice (some ⟨q, 0, none⟩) n c) := r3
          go_quiet (fail)
          clear v2 v3
          have HRV : Hid (Row ((W.drewN na).drewN nq) (.slice (some ⟨q, 0, none⟩) l.length c) l) := HRow.out
          have HTV : Hid (Touch [] W ((W.drewN na).drewN nq)) := ((Touch.refl _ _).drewN _).drewN _
          have HRS : Hid (RS ((W.drewN na).drewN nq) g F most l) := HR.out
          have v1 : g < ((W.drewN na).drewN nq).heap.size := r1
          have v2 : ((W.drewN na).drewN nq).cell? ⟨g, 0, none⟩ = some (.int .i64 most) := r2
          have v3 : ((W.drewN na).drewN nq).cell? ⟨g, 1, none⟩ = some (.slice (some ⟨q, 0, none⟩) n c) := r3
          have v5 : ((W.drewN na).drewN nq).frozen? ⟨g, 1, none⟩ = false := r5
          generalize (W.drewN na).drewN nq = V at *
          clear r1 r2 r3 r4 r5 CA CK CV
          go_wp2_with (first
            | (at_builtin; (refine wpList_append_own _ rfl (.const (.slice none 0 0)) (.tmp 58) 22 rfl V.heap.size 39 i0 z0 2 32 Try.underlying22 hi hz hs2 hb32 hzc (by decide) (.slice none 0 0) 0 [] rfl (World.ownsRow_nil _ _ _ _) ⟨q, 0, none⟩ c c (itemCells (l.take c)) rfl (by rw [itemCells_length, List.length_take, HN.out]; omega) (HRV.out.cellsTake c (by rw [HN.out]; omega)) (items_one _) (by unfold maxLen; omega) (by omega) (Nat.le_refl _) ?_); intro x1 w1 hown1 hg1 hnil1; simp only [Nat.zero_add, List.nil_append] at hown1; have hT1 : Touch [] V w1 := (Touch.refl [] V).grown hg1 (fun k hk => by cases hk); have v3' := (hT1.cell (p := ⟨g, 1, none⟩) v1 (by simp)).trans v3; have v5' := (hT1.frozen (p := ⟨g, 1, none⟩) v1 (by simp)).trans v5; have HT1 := Lib.hid hT1; have HO1 := Lib.hid hown1; clear hT1 hown1 hg1 hnil1)
            | (at_builtin; (refine wpList_append_own _ rfl (.tmp 59) (.tmp 63) 22 rfl V.heap.size 39 i0 z0 2 32 Try.underlying22 hi hz hs2 hb32 hzc (by decide) x1 _ _ rfl (HO1.out.alloc _) ⟨w1.heap.size, 0, none⟩ 1 1 (itemCells [(k, v)]) rfl rfl (item_new w1 k v) (items_one _) (by unfold maxLen; omega) (by omega) (by have := HT1.out.size; simp <;> omega) ?_); intro x2 w2 hown2 hg2 hnil2; have hT2 : Touch [] V w2 := (HT1.out.alloc _).grown hg2 (fun q hq => .inr (own_lt HO1.out q hq)); have v3' := (hT2.cell (p := ⟨g, 1, none⟩) v1 (by simp)).trans v3; have v5' := (hT2.frozen (p := ⟨g, 1, none⟩) v1 (by simp)).trans v5; have HT2 := Lib.hid hT2; have HO2 := Lib.hid hown2; clear hT2 hown2 hg2 hnil2)
            | (at_builtin; (refine wpList_append_own _ rfl (.tmp 64) (.tmp 65) 22 rfl V.heap.size 39 i0 z0 2 32 Try.underlying22 hi hz hs2 hb32 hzc (by decide) x2 _ _ rfl HO2.out ⟨q, 0, none⟩ 0 0 (itemCells (l.drop c)) rfl (by rw [HDR.out]; rfl) (by rw [HDR.out]; intro j u hj; simp [itemCells] at hj) (items_one _) (by unfold maxLen; omega) (by omega) HT2.out.size ?_); intro x3 w3 hown3 hg3 hnil3; simp only [Nat.add_zero] at hown3; obtain ⟨A3, c3, rfl⟩ := own_slice hown3; have hT3 : Touch [] V w3 := HT2.out.grown hg3 (fun q hq => .inr (own_lt HO2.out q hq)); have v3' := (hT3.cell (p := ⟨g, 1, none⟩) v1 (by simp)).trans v3; have v5' := (hT3.frozen (p := ⟨g, 1, none⟩) v1 (by simp)).trans v5; have HT3 := Lib.hid hT3; have HO3 := Lib.hid hown3; clear hT3 hown3 hg3 hnil3))
          go_ret
          exact refPut_end HEE.out HPP.out HRS.out HTV.out HT3.out HO3.out (by rw [List.length_append, List.length_cons, List.length_take, List.length_drop, HN.out]; omega) (by rw [itemCells_append, itemCells_cons]; simp [itemCells])
        · have hcp : ¬ c = p := hce
          go_enter Try.func28, Try.ntmps28
          go_upto_region 11 with (first
            | (go_at_call 23; ((with_reducible refine (CK.out _).mono ?_); rintro e w1 ⟨rfl, rfl⟩))
            | (go_at_call 24; ((with_reducible refine (CV.out _).mono ?_); rintro e w1 ⟨rfl, rfl⟩))
            | (go_at_call 44; ((with_reducible refine (CA.out).mono ?_); rintro e w1 ⟨rfl, na, rfl⟩)))
          have v2 : (W.drewN na).cell? ⟨g, 0, none⟩ = some (.int .i64 most) := r2
          have v3 : (W.drewN na).cell? ⟨g, 1, none⟩ = some (.slice (some ⟨q, 0, none⟩) n c) := r3
          go_quiet (fail)
          clear v2 v3
          have HRV : Hid (Row ((W.drewN na).drewN nq) (.slice (some ⟨q, 0, none⟩) l.length c) l) := HRow.out
          have HTV : Hid (Touch [] W ((W.drewN na).drewN nq)) := ((Touch.refl _ _).drewN _).drewN _
          have HRS : Hid (RS ((W.drewN na).drewN nq) g F most l) := HR.out
          have v1 : g < ((W.drewN na).drewN nq).heap.size := r1
          have v2 : ((W.drewN na).drewN nq).cell? ⟨g, 0, none⟩ = some (.int .i64 most) := r2
          have v3 : ((W.drewN na).drewN nq).cell? ⟨g, 1, none⟩ = some (.slice (some ⟨q, 0, none⟩) n c) := r3
          have v5 : ((W.drewN na).drewN nq).frozen? ⟨g, 1, none⟩ = false := r5
          generalize (W.drewN na).drewN nq = V at *
          clear r1 r2 r3 r4 r5 CA CK CV
          go_wp2_with (first
            | (at_builtin; (refine wpList_append_own _ rfl (.const (.slice none 0 0)) (.tmp 58) 22 rfl V.heap.size 39 i0 z0 2 32 Try.underlying22 hi hz hs2 hb32 hzc (by decide) (.slice none 0 0) 0 [] rfl (World.ownsRow_nil _ _ _ _) ⟨q, 0, none⟩ p c (itemCells (l.take p)) rfl (by rw [itemCells_length, List.length_take, HN.out]; omega) (HRV.out.cellsTake p (by rw [HN.out]; omega)) (items_one _) (by unfold maxLen; omega) (by omega) (Nat.le_refl _) ?_); intro x1 w1 hown1 hg1 hnil1; simp only [Nat.zero_add, List.nil_append] at hown1; have hT1 : Touch [] V w1 := (Touch.refl [] V).grown hg1 (fun k hk => by cases hk); have v3' := (hT1.cell (p := ⟨g, 1, none⟩) v1 (by simp)).trans v3; have v5' := (hT1.frozen (p := ⟨g, 1, none⟩) v1 (by simp)).trans v5; have HT1 := Lib.hid hT1; have HO1 := Lib.hid hown1; clear hT1 hown1 hg1 hnil1)
            | (at_builtin; (refine wpList_append_own _ rfl (.tmp 59) (.tmp 63) 22 rfl V.heap.size 39 i0 z0 2 32 Try.underlying22 hi hz hs2 hb32 hzc (by decide) x1 _ _ rfl (HO1.out.alloc _) ⟨w1.heap.size, 0, none⟩ 1 1 (itemCells [(k, v)]) rfl rfl (item_new w1 k v) (items_one _) (by unfold maxLen; omega) (by omega) (by have := HT1.out.size; simp <;> omega) ?_); intro x2 w2 hown2 hg2 hnil2; have hT2 : Touch [] V w2 := (HT1.out.alloc _).grown hg2 (fun q hq => .inr (own_lt HO1.out q hq)); have v3' := (hT2.cell (p := ⟨g, 1, none⟩) v1 (by simp)).trans v3; have v5' := (hT2.frozen (p := ⟨g, 1, none⟩) v1 (by simp)).trans v5; have HT2 := Lib.hid hT2; have HO2 := Lib.hid hown2; clear hT2 hown2 hg2 hnil2)
            | (at_builtin; (refine wpList_append_own _ rfl (.tmp 64) (.tmp 65) 22 rfl V.heap.size 39 i0 z0 2 32 Try.underlying22 hi hz hs2 hb32 hzc (by decide) x2 _ _ rfl HO2.out ⟨q, p * 2, none⟩ (n - p) (c - p) (itemCells (l.drop p)) rfl (by rw [itemCells_length, List.length_drop, HN.out]) (Row.cellsDrop (HT2.out.row HRV.out (by simp)) p) (items_one _) (by unfold maxLen; omega) (by omega) HT2.out.size ?_); intro x3 w3 hown3 hg3 hnil3; obtain ⟨A3, c3, rfl⟩ := own_slice hown3; have hT3 : Touch [] V w3 := HT2.out.grown hg3 (fun q hq => .inr (own_lt HO2.out q hq)); have v3' := (hT3.cell (p := ⟨g, 1, none⟩) v1 (by simp)).trans v3; have v5' := (hT3.frozen (p := ⟨g, 1, none⟩) v1 (by simp)).trans v5; have HT3 := Lib.hid hT3; have HO3 := Lib.hid hown3; clear hT3 hown3 hg3 hnil3))
          go_ret
          exact refPut_end HEE.out HPP.out HRS.out HTV.out HT3.out HO3.out (by rw [List.length_append, List.length_cons, List.length_take, List.length_drop, HN.out]; omega) (by rw [itemCells_append, itemCells_cons]; simp [itemCells])
  · -- the key is there
    have hpn1 : p < n := hph rfl
    have HEE := Lib.hid (show putE most l k v = 0 by rw [hEe, if_neg (fun h => by cases h.1)])
    have HPP := Lib.hid (show putN l k v = l.take p ++ (k, v) :: l.drop (p + 1) from hPN)
    clear hEe hPN hph
    obtain ⟨q, rfl⟩ := HRow.out.atBlock (by rw [HN.out]; omega)
    have hpc : p ≤ c := by omega
    have hpn : p ≤ n := by omega
    have hcp : ¬ c = p := by omega
    have hpn2 : p + 1 ≤ n := by omega
    by_cases hce : c = p + 1
    · subst hce
      have hdr : l.drop (p + 1) = [] := List.drop_of_length_le (by rw [HN.out]; omega)
      have HDR := Lib.hid hdr
      clear hdr
      go_enter Try.func28, Try.ntmps28
      go_upto_region 13 with (first
        | (go_at_call 23; ((with_reducible refine (CK.out _).mono ?_); rintro e w1 ⟨rfl, rfl⟩))
        | (go_at_call 24; ((with_reducible refine (CV.out _).mono ?_); rintro e w1 ⟨rfl, rfl⟩))
        | (go_at_call 44; ((with_reducible refine (CA.out).mono ?_); rintro e w1 ⟨rfl, na, rfl⟩)))
      have HRV : Hid (Row (W.drewN na) (.slice (some ⟨q, 0, none⟩) l.length (p + 1)) l) := HRow.out
      have HTV : Hid (Touch [] W (W.drewN na)) := (Touch.refl _ _).drewN _
      have HRS : Hid (RS (W.drewN na) g F most l) := HR.out
      have v1 : g < (W.drewN na).heap.size := r1
      have v2 : (W.drewN na).cell? ⟨g, 0, none⟩ = some (.int .i64 most) := r2
      have v3 : (W.drewN na).cell? ⟨g, 1, none⟩ = some (.slice (some ⟨q, 0, none⟩) n (p + 1)) := r3
      have v5 : (W.drewN na).frozen? ⟨g, 1, none⟩ = false := r5
      generalize W.drewN na = V at *
      clear r1 r2 r3 r4 r5 CA CK CV
      go_wp2_with (first
        | (at_builtin; (refine wpList_append_own _ rfl (.const (.slice none 0 0)) (.tmp 58) 22 rfl V.heap.size 39 i0 z0 2 32 Try.underlying22 hi hz hs2 hb32 hzc (by decide) (.slice none 0 0) 0 [] rfl (World.ownsRow_nil _ _ _ _) ⟨q, 0, none⟩ p (p + 1) (itemCells (l.take p)) rfl (by rw [itemCells_length, List.length_take, HN.out]; omega) (HRV.out.cellsTake p (by rw [HN.out]; omega)) (items_one _) (by unfold maxLen; omega) (by omega) (Nat.le_refl _) ?_); intro x1 w1 hown1 hg1 hnil1; simp only [Nat.zero_add, List.nil_append] at hown1; have hT1 : Touch [] V w1 := (Touch.refl [] V).grown hg1 (fun k hk => by cases hk); have v3' := (hT1.cell (p := ⟨g, 1, none⟩) v1 (by simp)).trans v3; have v5' := (hT1.frozen (p := ⟨g, 1, none⟩) v1 (by simp)).trans v5; have HT1 := Lib.hid hT1; have HO1 := Lib.hid hown1; clear hT1 hown1 hg1 hnil1)
        | (at_builtin; (refine wpList_append_own _ rfl (.tmp 59) (.tmp 63) 22 rfl V.heap.size 39 i0 z0 2 32 Try.underlying22 hi hz hs2 hb32 hzc (by decide) x1 _ _ rfl (HO1.out.alloc _) ⟨w1.heap.size, 0, none⟩ 1 1 (itemCells [(k, v)]) rfl rfl (item_new w1 k v) (items_one _) (by unfold maxLen; omega) (by omega) (by have := HT1.out.size; simp <;> omega) ?_); intro x2 w2 hown2 hg2 hnil2; have hT2 : Touch [] V w2 := (HT1.out.alloc _).grown hg2 (fun q hq => .inr (own_lt HO1.out q hq)); have v3' := (hT2.cell (p := ⟨g, 1, none⟩) v1 (by simp)).trans v3; have v5' := (hT2.frozen (p := ⟨g, 1, none⟩) v1 (by simp)).trans v5; have HT2 := Lib.hid hT2; have HO2 := Lib.hid hown2; clear hT2 hown2 hg2 hnil2)
        | (at_builtin; (refine wpList_append_own _ rfl (.tmp 64) (.tmp 65) 22 rfl V.heap.size 39 i0 z0 2 32 Try.underlying22 hi hz hs2 hb32 hzc (by decide) x2 _ _ rfl HO2.out ⟨q, 0, none⟩ 0 0 (itemCells (l.drop (p + 1))) rfl (by rw [HDR.out]; rfl) (by rw [HDR.out]; intro j u hj; simp [itemCells] at hj) (items_one _) (by unfold maxLen; omega) (by omega) HT2.out.size ?_); intro x3 w3 hown3 hg3 hnil3; simp only [Nat.add_zero] at hown3; obtain ⟨A3, c3, rfl⟩ := own_slice hown3; have hT3 : Touch [] V w3 := HT2.out.grown hg3 (fun q hq => .inr (own_lt HO2.out q hq)); have v3' := (hT3.cell (p := ⟨g, 1, none⟩) v1 (by simp)).trans v3; have v5' := (hT3.frozen (p := ⟨g, 1, none⟩) v1 (by simp)).trans v5; have HT3 := Lib.hid hT3; have HO3 := Lib.hid hown3; clear hT3 hown3 hg3 hnil3))
      go_ret
      exact refPut_end HEE.out HPP.out HRS.out HTV.out HT3.out HO3.out (by rw [List.length_append, List.length_cons, List.length_take, List.length_drop, HN.out]; omega) (by rw [itemCells_append, itemCells_cons]; simp [itemCells])
    · have hcp1 : ¬ c = p + 1 := hce
      go_enter Try.func28, Try.ntmps28
      go_upto_region 13 with (first
        | (go_at_call 23; ((with_reducible refine (CK.out _).mono ?_); rintro e w1 ⟨rfl, rfl⟩))
        | (go_at_call 24; ((with_reducible refine (CV.out _).mono ?_); rintro e w1 ⟨rfl, rfl⟩))
        | (go_at_call 44; ((with_reducible refine (CA.out).mono ?_); rintro e w1 ⟨rfl, na, rfl⟩)))
      have HRV : Hid (Row (W.drewN na) (.slice (some ⟨q, 0, none⟩) l.length c) l) := HRow.out
      have HTV : Hid (Touch [] W (W.drewN na)) := (Touch.refl _ _).drewN _
      have HRS : Hid (RS (W.drewN na) g F most l) := HR.out
      have v1 : g < (W.drewN na).heap.size := r1
      have v2 : (W.drewN na).cell? ⟨g, 0, none⟩ = some (.int .i64 most) := r2
      have v3 : (W.drewN na).cell? ⟨g, 1, none⟩ = some (.slice (some ⟨q, 0, none⟩) n c) := r3
      have v5 : (W.drewN na).frozen? ⟨g, 1, none⟩ = false := r5
      generalize W.drewN na = V at *
      clear r1 r2 r3 r4 r5 CA CK CV
      go_wp2_with (first
        | (at_builtin; (refine wpList_append_own _ rfl (.const (.slice none 0 0)) (.tmp 58) 22 rfl V.heap.size 39 i0 z0 2 32 Try.underlying22 hi hz hs2 hb32 hzc (by decide) (.slice none 0 0) 0 [] rfl (World.ownsRow_nil _ _ _ _) ⟨q, 0, none⟩ p c (itemCells (l.take p)) rfl (by rw [itemCells_length, List.length_take, HN.out]; omega) (HRV.out.cellsTake p (by rw [HN.out]; omega)) (items_one _) (by unfold maxLen; omega) (by omega) (Nat.le_refl _) ?_); intro x1 w1 hown1 hg1 hnil1; simp only [Nat.zero_add, List.nil_append] at hown1; have hT1 : Touch [] V w1 := (Touch.refl [] V).grown hg1 (fun k hk => by cases hk); have v3' := (hT1.cell (p := ⟨g, 1, none⟩) v1 (by simp)).trans v3; have v5' := (hT1.frozen (p := ⟨g, 1, none⟩) v1 (by simp)).trans v5; have HT1 := Lib.hid hT1; have HO1 := Lib.hid hown1; clear hT1 hown1 hg1 hnil1)
        | (at_builtin; (refine wpList_append_own _ rfl (.tmp 59) (.tmp 63) 22 rfl V.heap.size 39 i0 z0 2 32 Try.underlying22 hi hz hs2 hb32 hzc (by decide) x1 _ _ rfl (HO1.out.alloc _) ⟨w1.heap.size, 0, none⟩ 1 1 (itemCells [(k, v)]) rfl rfl (item_new w1 k v) (items_one _) (by unfold maxLen; omega) (by omega) (by have := HT1.out.size; simp <;> omega) ?_); intro x2 w2 hown2 hg2 hnil2; have hT2 : Touch [] V w2 := (HT1.out.alloc _).grown hg2 (fun q hq => .inr (own_lt HO1.out q hq)); have v3' := (hT2.cell (p := ⟨g, 1, none⟩) v1 (by simp)).trans v3; have v5' := (hT2.frozen (p := ⟨g, 1, none⟩) v1 (by simp)).trans v5; have HT2 := Lib.hid hT2; have HO2 := Lib.hid hown2; clear hT2 hown2 hg2 hnil2)
        | (at_builtin; (refine wpList_append_own _ rfl (.tmp 64) (.tmp 65) 22 rfl V.heap.size 39 i0 z0 2 32 Try.underlying22 hi hz hs2 hb32 hzc (by decide) x2 _ _ rfl HO2.out ⟨q, (p + 1) * 2, none⟩ (n - (p + 1)) (c - (p + 1)) (itemCells (l.drop (p + 1))) rfl (by rw [itemCells_length, List.length_drop, HN.out]) (Row.cellsDrop (HT2.out.row HRV.out (by simp)) (p + 1)) (items_one _) (by unfold maxLen; omega) (by omega) HT2.out.size ?_); intro x3 w3 hown3 hg3 hnil3; rw [show p + 1 + (n - (p + 1)) = n by omega] at hown3; obtain ⟨A3, c3, rfl⟩ := own_slice hown3; have hT3 : Touch [] V w3 := HT2.out.grown hg3 (fun q hq => .inr (own_lt HO2.out q hq)); have v3' := (hT3.cell (p := ⟨g, 1, none⟩) v1 (by simp)).trans v3; have v5' := (hT3.frozen (p := ⟨g, 1, none⟩) v1 (by simp)).trans v5; have HT3 := Lib.hid hT3; have HO3 := Lib.hid hown3; clear hT3 hown3 hg3 hnil3))
      go_ret
      exact refPut_end HEE.out HPP.out HRS.out HTV.out HT3.out HO3.out (by rw [List.length_append, List.length_cons, List.length_take, List.length_drop, HN.out]; omega) (by rw [itemCells_append, itemCells_cons]; simp [itemCells])

end Go.Proofs.Ytojiblhaiokdcaa
