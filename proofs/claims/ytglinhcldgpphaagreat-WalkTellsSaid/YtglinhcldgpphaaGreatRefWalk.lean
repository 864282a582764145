/-
  The walks of the document's own ways: Range, Arc, Middle.
-/
import Derived.Test.YtglinhcldgpphaaGreatWalkPlain
import Derived.Test.YtglinhcldgpphaaGreatRefShelf
import Derived.Test.YtglinhcldgpphaaGreatShelfItems
import Derived.Test.YtglinhcldgpphaaGreatKeyFirst
import Derived.Test.YtglinhcldgpphaaGreatArcRef
namespace Go.Proofs.YtglinhcldgpphaaGreat
open Go.RowKit

theorem rangeL_snoc (l : List Item) (x : Item) (f t : ByteArray) : rangeL (l ++ [x]) f t = rangeL l f t ++ (if (!lessB x.1 f && (t.size == 0 || lessB x.1 t)) = true then [x] else []) := by
  unfold rangeL
  rw [List.filter_append]
  congr 1
  simp only [List.filter_cons, List.filter_nil]
/-- a list that grows in memory of the call's own -/
def Out (W wx : World) (A : Option Addr) (c : Nat) (cur : List Item) : Prop :=
  wx.ownsRow W.heap.size 59 2 (.slice A cur.length c) cur.length (itemCells cur) ∧ Below W.heap.size W wx
theorem Out.nil (W : World) : Out W W none 0 [] := ⟨World.ownsRow_nil _ _ _ _, Below.refl _ _⟩
theorem Out.below {W w w1 : World} {A : Option Addr} {c : Nat} {cur : List Item} (h : Out W w A c cur) (hb : Below w.heap.size w w1) : Out W w1 A c cur := ⟨(Touch.ofBelow (F := []) hb).row h.1 (by simp), acc h.2 hb⟩
/-- an item put behind it -/
theorem Out.push {W w w3 : World} {A A3 : Option Addr} {c c3 : Nat} {cur : List Item} {x : Item} {o : Obj} (h : Out W w A c cur) (ho : w3.ownsRow W.heap.size 59 2 (.slice A3 (cur.length + 1) c3) (cur.length + 1) (itemCells cur ++ itemCells [x])) (hg : (w.alloc o).grownBy w3 (Value.slice A cur.length c).ownBlock) : Out W w3 A3 c3 (cur ++ [x]) := by
  refine ⟨item_push ho rfl, ?_⟩
  have t : Touch (Value.slice A cur.length c).ownBlock.toList w w3 := ((Touch.refl _ w).alloc o).grown hg (fun k hk => .inl (by simp [hk]))
  exact Touch.acc h.2 t (fun k hk => (h.1.lt k (by simpa using hk)).1)
/-- what the reference has, at a later world -/
theorem RS.later {W w : World} {g : Nat} {F : List Nat} {most : Int} {l : List Item} (h : RS W g F most l) (hb : Below W.heap.size W w) : RS w g F most l := h.touch (Touch.ofBelow (F := []) hb) (by simp) (by simp)
set_option maxHeartbeats 4000000 in
theorem refRange_any (g : Nat) (F : List Nat) (most : Int) (l : List Item) (f t : ByteArray) (W : World) (hR : RS W g F most l) (hl : l.length ≤ 100000) :
    Calls Tryz.prog 8 #[.pointer (some ⟨g, 0, none⟩), .string f, .string t] W (NewItems W (rangeL l f t)) := by
  obtain ⟨i0, hi0, hz0, hs0, hb0⟩ := infoItems
  obtain ⟨A0, c0, ⟨h1, -, h3, -, -⟩, h6, -, -⟩ := hR
  have HRow := Lib.hid h6
  obtain ⟨n, hn⟩ : ∃ n, l.length = n := ⟨_, rfl⟩
  have HN := Lib.hid hn
  rw [hn] at h3 hl
  clear h6 hn
  go_enter Tryz.func8, Tryz.ntmps8
  go_wp2_with fail
  go_loopg [7, 8] (n + 1) (fun gh s7 s8 wx => ∃ i A c cur, i + gh = n + 1 ∧ i ≤ n ∧ s7 = .slice A cur.length c ∧ s8 = .int .i64 (i : Nat) ∧ cur.length ≤ i ∧ Hid (cur = rangeL (l.take i) f t) ∧ Hid (Out W wx A c cur))
  case atStart => exact ⟨0, none, 0, [], by omega, by omega, rfl, rfl, by simp, (show [] = rangeL (l.take 0) f t by rw [List.take_zero]; rfl), Out.nil W⟩
  case round =>
    obtain ⟨i, A, c, cur, hig, hi, rfl, rfl, hcl, HC, HO⟩ := hrel
    have hb := HO.out.2
    have h3' := (hb.cell (p := ⟨g, 1, none⟩) h1).trans h3
    by_cases hlt : i < n
    · have hil : i < l.length := by rw [HN.out]; exact hlt
      obtain ⟨q, rfl⟩ := HRow.out.atBlock (by omega)
      have hq := (HRow.out.lt q rfl).2
      have ck := (hb.cell (p := ⟨q, i * 2, none⟩) hq).trans ((HRow.out.cellAt (i * 2) (by omega)).trans (itemCells_get0 l i hil))
      have cv := (hb.cell (p := ⟨q, i * 2 + 1, none⟩) hq).trans ((HRow.out.cellAt (i * 2 + 1) (by omega)).trans (itemCells_get1 l i hil))
      have htk : l.take (i + 1) = l.take i ++ [l[i]] := by rw [List.take_add_one, List.getElem?_eq_getElem hil]; rfl
      obtain ⟨x, hx⟩ : ∃ x, l[i] = x := ⟨_, rfl⟩
      rw [hx] at ck cv htk
      obtain ⟨xk, xv⟩ := x
      have hT : rangeL (l.take (i + 1)) f t = cur ++ (if (!lessB xk f && (t.size == 0 || lessB xk t)) = true then [(xk, xv)] else []) := by
        rw [htk, rangeL_snoc, ← HC.out]
      have HT := Lib.hid hT
      have ck : wr.cell? ⟨q, i * 2, none⟩ = some (.string xk) := ck
      have cv : wr.cell? ⟨q, i * 2 + 1, none⟩ = some (.string xv) := cv
      clear htk hx hb hil hT
      have hsz := HO.out.2.size
      by_cases ht : t = ⟨#[]⟩
      · subst ht
        cases a1 : Op.bytesLess xk.toList f.toList
        · go_wp2_with (at_builtin; go_must (refine wpList_append_any rfl (.tmp 44) (.tmp 52) 22 rfl W.heap.size 59 i0 (.agg #[.string ⟨#[]⟩, .string ⟨#[]⟩]) 2 32 Tryz.underlying22 hi0 hz0 hs0 hb0 rfl (by decide) (.slice A cur.length c) cur.length (itemCells cur) rfl (HO.out.1.alloc _) (.slice (some ⟨wr.heap.size, 0, none⟩) 1 1) 1 (itemCells [(xk, xv)]) rfl (item_src _ _ xk xv (heap_alloc_new _ _)) (items_one _) (by unfold maxLen; omega) (by omega) (by simp; omega) ?_); intro A3 c3 w3 ho3 hg3 hs3; have HO3 := Lib.hid (HO.out.push ho3 hg3); clear ho3 hg3 hs3)
          go_roundg (gk - 1)
          case measure => omega
          case rel => exact ⟨i + 1, A3, c3, cur ++ [(xk, xv)], by omega, by omega, by rw [List.length_append]; rfl, by go_num, by simp; omega, (show cur ++ [(xk, xv)] = rangeL (l.take (i + 1)) f _ by rw [HT.out, show lessB xk f = false from a1]; rfl), HO3⟩
        · go_wp2_with fail
          go_roundg (gk - 1)
          case measure => omega
          case rel => exact ⟨i + 1, A, c, cur, by omega, by omega, rfl, by go_num, by omega, (show cur = rangeL (l.take (i + 1)) f _ by rw [HT.out, show lessB xk f = true from a1]; simp), HO⟩
      · have e0 : (t.toList == ([] : List UInt8)) = false := by
          rw [beq_eq_false_iff_ne]
          exact fun e => ht (toList_inj (e.trans (by rw [Lib.toList_data])))
        have e1 : (t.size == 0) = false := by
          rw [beq_eq_false_iff_ne]
          exact fun e => ht (ByteArray.ext (Array.eq_empty_of_size_eq_zero e))
        cases a1 : Op.bytesLess xk.toList f.toList
        · cases a2 : Op.bytesLess xk.toList t.toList
          · go_wp2_with fail
            go_roundg (gk - 1)
            case measure => omega
            case rel => exact ⟨i + 1, A, c, cur, by omega, by omega, rfl, by go_num, by omega, (show cur = rangeL (l.take (i + 1)) f _ by rw [HT.out, show lessB xk f = false from a1, show lessB xk t = false from a2, e1]; simp), HO⟩
          · go_wp2_with (at_builtin; go_must (refine wpList_append_any rfl (.tmp 44) (.tmp 52) 22 rfl W.heap.size 59 i0 (.agg #[.string ⟨#[]⟩, .string ⟨#[]⟩]) 2 32 Tryz.underlying22 hi0 hz0 hs0 hb0 rfl (by decide) (.slice A cur.length c) cur.length (itemCells cur) rfl (HO.out.1.alloc _) (.slice (some ⟨wr.heap.size, 0, none⟩) 1 1) 1 (itemCells [(xk, xv)]) rfl (item_src _ _ xk xv (heap_alloc_new _ _)) (items_one _) (by unfold maxLen; omega) (by omega) (by simp; omega) ?_); intro A3 c3 w3 ho3 hg3 hs3; have HO3 := Lib.hid (HO.out.push ho3 hg3); clear ho3 hg3 hs3)
            go_roundg (gk - 1)
            case measure => omega
            case rel => exact ⟨i + 1, A3, c3, cur ++ [(xk, xv)], by omega, by omega, by rw [List.length_append]; rfl, by go_num, by simp; omega, (show cur ++ [(xk, xv)] = rangeL (l.take (i + 1)) f _ by rw [HT.out, show lessB xk f = false from a1, show lessB xk t = true from a2, e1]; rfl), HO3⟩
        · go_wp2_with fail
          go_roundg (gk - 1)
          case measure => omega
          case rel => exact ⟨i + 1, A, c, cur, by omega, by omega, rfl, by go_num, by omega, (show cur = rangeL (l.take (i + 1)) f _ by rw [HT.out, show lessB xk f = true from a1]; simp), HO⟩
    · obtain rfl : i = n := by omega
      have HE : Hid (cur = rangeL l f t) := by
        have z := HC.out
        rw [List.take_of_length_le (by rw [HN.out]; omega)] at z
        exact z
      go_wp2_with fail
      go_ret
      exact ⟨A, c, by rw [← HE.out]; rfl, by rw [← HE.out]; exact HO.out.1, HO.out.2⟩

set_option maxRecDepth 100000 in
set_option maxHeartbeats 8000000 in
theorem refArc_any (g : Nat) (F : List Nat) (most : Int) (l : List Item) (f t : Nat) (W : World) (hR : RS W g F most l) (hl : l.length ≤ 100000) (hks : ∀ x ∈ l, x.1.size ≤ 16) (hf : f < 18446744073709551616) (ht : t < 18446744073709551616) :
    Calls Tryz.prog 10 #[.pointer (some ⟨g, 0, none⟩), .agg #[.int .u64 (f : Nat), .int .u64 (t : Nat)]] W (NewItems W (arcL l f t)) := by
  obtain ⟨i0, hi0, hz0, hs0, hb0⟩ := infoItems
  have hR1 := hR.later ((Below.refl W.heap.size W).alloc (Nat.le_refl _) (.cells #[.int .u64 (f : Nat), .int .u64 (t : Nat)] 25))
  have hx0 : (W.alloc (.cells #[.int .u64 (f : Nat), .int .u64 (t : Nat)] 25)).cell? ⟨W.heap.size, 0, none⟩ = some (.int .u64 (f : Nat)) := by go_simp
  have hx1 : (W.alloc (.cells #[.int .u64 (f : Nat), .int .u64 (t : Nat)] 25)).cell? ⟨W.heap.size, 1, none⟩ = some (.int .u64 (t : Nat)) := by go_simp
  have hB1 : W.heap.size < (W.alloc (.cells #[.int .u64 (f : Nat), .int .u64 (t : Nat)] 25)).heap.size := by simp
  have HBW : Hid (Below W.heap.size W (W.alloc (.cells #[.int .u64 (f : Nat), .int .u64 (t : Nat)] 25))) := (Below.refl _ _).alloc (Nat.le_refl _) _
  have HKS := Lib.hid hks
  clear hR hks
  go_enter Tryz.func10, Tryz.ntmps10
  go_wp2_with fail
  obtain ⟨W1, hW1⟩ : ∃ W1, W.alloc (.cells #[.int .u64 (f : Nat), .int .u64 (t : Nat)] 25) = W1 := ⟨_, rfl⟩
  rw [hW1] at hR1 hx0 hx1 hB1 HBW ⊢
  obtain ⟨A0, c0, ⟨hg1, -, hg3, -, -⟩, h6, -, -⟩ := hR1
  have HRow := Lib.hid h6
  obtain ⟨n, hn⟩ : ∃ n, l.length = n := ⟨_, rfl⟩
  have HN := Lib.hid hn
  rw [hn] at hg3 hl
  clear h6 hn hW1
  go_loopg [5, 6] 3 (fun gh s5 s6 wx => ∃ (r : Int) (A : Option Addr) (c : Nat) (cur : List Item), s5 = .slice A cur.length c ∧ s6 = .int .i64 r ∧ ((r = 0 ∧ gh = 3 ∧ cur = []) ∨ (r = 1 ∧ gh = 2 ∧ cur = l.filter (inA f t false)) ∨ (r = 2 ∧ gh = 1 ∧ cur = arcL l f t)) ∧ Hid (Out W1 wx A c cur))
  case atStart => exact ⟨0, none, 0, [], rfl, rfl, .inl ⟨rfl, rfl, rfl⟩, Out.nil W1⟩
  case round =>
    obtain ⟨r, A, c, cur, rfl, rfl, hcase, HO⟩ := hrel
    rcases hcase with ⟨rfl, hgk, hcur⟩ | ⟨rfl, hgk, hcur⟩ | ⟨rfl, hgk, hcur⟩
    · -- round 0
      obtain ⟨wq, rfl⟩ : ∃ wq : World, wq = wr := ⟨_, rfl⟩
      obtain ⟨go, rfl⟩ : ∃ go : Nat, go = gk := ⟨_, rfl⟩
      have hcl : cur.length ≤ n := by rw [hcur]; simp
      go_wp2_with fail
      go_loopg [5, 7] (n + 1) (fun gj s5 s7 wy => ∃ i A2 c2 cur2, i + gj = n + 1 ∧ i ≤ n ∧ s5 = .slice A2 cur2.length c2 ∧ s7 = .int .i64 (i : Nat) ∧ cur2.length ≤ cur.length + i ∧ Hid (cur2 = cur ++ (l.take i).filter (inA f t false)) ∧ Hid (Out W1 wy A2 c2 cur2))
      case atStart => exact ⟨0, A, c, cur, by omega, by omega, rfl, rfl, by omega, (show cur = cur ++ (l.take 0).filter (inA f t false) by rw [List.take_zero]; simp), HO⟩
      case round =>
        obtain ⟨i, A2, c2, cur2, hig, hi, rfl, rfl, hcl2, HC2, HO2'⟩ := hrel
        have hb := HO2'.out.2
        have h3' := (hb.cell (p := ⟨g, 1, none⟩) hg1).trans hg3
        have hbx0 := (hb.cell (p := ⟨W.heap.size, 0, none⟩) hB1).trans hx0
        have hbx1 := (hb.cell (p := ⟨W.heap.size, 1, none⟩) hB1).trans hx1
        by_cases hlt : i < n
        · have hil : i < l.length := by rw [HN.out]; exact hlt
          obtain ⟨q, rfl⟩ := HRow.out.atBlock (by omega)
          have hq := (HRow.out.lt q rfl).2
          have ck := (hb.cell (p := ⟨q, i * 2, none⟩) hq).trans ((HRow.out.cellAt (i * 2) (by omega)).trans (itemCells_get0 l i hil))
          have cv := (hb.cell (p := ⟨q, i * 2 + 1, none⟩) hq).trans ((HRow.out.cellAt (i * 2 + 1) (by omega)).trans (itemCells_get1 l i hil))
          have htk : l.take (i + 1) = l.take i ++ [l[i]] := by rw [List.take_add_one, List.getElem?_eq_getElem hil]; rfl
          have hks := HKS.out _ (List.getElem_mem hil)
          obtain ⟨x, hx⟩ : ∃ x, l[i] = x := ⟨_, rfl⟩
          rw [hx] at ck cv htk hks
          obtain ⟨xk, xv⟩ := x
          have hks : xk.size ≤ 16 := hks
          have hT : cur ++ (l.take (i + 1)).filter (inA f t false) = cur2 ++ (if inA f t false (xk, xv) = true then [(xk, xv)] else []) := by
            rw [htk, List.filter_append, ← List.append_assoc, ← HC2.out]
            simp only [List.filter_cons, List.filter_nil]
          have HT := Lib.hid hT
          have ck : wr.cell? ⟨q, i * 2, none⟩ = some (.string xk) := ck
          have cv : wr.cell? ⟨q, i * 2 + 1, none⟩ = some (.string xv) := cv
          have hqr : q < wr.heap.size := by have := hb.size; omega
          have hgr : g < wr.heap.size := by have := hb.size; omega
          have hbr : W.heap.size < wr.heap.size := by have := hb.size; omega
          obtain ⟨ad, had⟩ : ∃ ad, addrN xk = ad := ⟨_, rfl⟩
          have hadl : ad < 18446744073709551616 := by rw [← had]; exact addrN_lt _
          have HAD : Hid (adr (xk, xv) = ad) := had
          have CA : Hid (∀ w, Calls Tryz.prog 33 #[.string xk] w fun e w' => e = .returned (.int .u64 (ad : Nat)) ∧ w = w') := fun w => by
            have z := refAddr_any xk w (by unfold maxLen; omega)
            rwa [had] at z
          obtain ⟨b1, hb1⟩ : ∃ b1, inB f t ad = b1 := ⟨_, rfl⟩
          have HB1 := Lib.hid hb1
          have CI : Hid (∀ w, Calls Tryz.prog 34 #[.agg #[.int .u64 (f : Nat), .int .u64 (t : Nat)], .int .u64 (ad : Nat)] w fun e w' => e = .returned (.bool b1) ∧ Below w.heap.size w w') := fun w => by
            have z := refIn_any f t ad w hf ht hadl
            rwa [hb1] at z
          have hcb : cur2.length ≤ 200000 := by omega
          clear htk hx hil hT had hb1 hb
          cases b1 <;> by_cases hfa : f ≤ ad
          all_goals first | (have d1 : decide (f ≤ ad) = true := decide_eq_true hfa) | (have d1 : decide (f ≤ ad) = false := decide_eq_false hfa)
          all_goals
            go_wp2_with (first
              | (go_at_call 33; (with_reducible refine (CA.out _).mono ?_); rintro e w1 ⟨rfl, rfl⟩)
              | (go_at_call 34; (with_reducible refine (CI.out _).mono ?_); rintro e w2 ⟨rfl, hb2⟩; have HO2 := Lib.hid (HO2'.out.below hb2); have z3 := (hb2.cell (p := ⟨g, 1, none⟩) hgr).trans h3'; have zk := (hb2.cell (p := ⟨q, i * 2, none⟩) hqr).trans ck; have zv := (hb2.cell (p := ⟨q, i * 2 + 1, none⟩) hqr).trans cv; have zx := (hb2.cell (p := ⟨W.heap.size, 0, none⟩) hbr).trans hbx0; clear hb2)
              | (at_builtin; go_must (refine wpList_append_any rfl (.tmp 43) (.tmp 51) 22 rfl W1.heap.size 59 i0 (.agg #[.string ⟨#[]⟩, .string ⟨#[]⟩]) 2 32 Tryz.underlying22 hi0 hz0 hs0 hb0 rfl (by decide) (.slice A2 cur2.length c2) cur2.length (itemCells cur2) rfl (HO2.out.1.alloc _) (.slice (some ⟨w2.heap.size, 0, none⟩) 1 1) 1 (itemCells [(xk, xv)]) rfl (item_src _ _ xk xv (heap_alloc_new _ _)) (items_one _) (by unfold maxLen; omega) (by omega) (by have := HO2.out.2.size; simp; omega) ?_); intro A3 c3 w3 ho3 hg3 hs3; have HO3 := Lib.hid (HO2.out.push ho3 hg3); clear ho3 hg3 hs3))
            go_roundg (gk - 1)
            case measure => omega
            case rel => first
              | exact ⟨i + 1, A3, c3, cur2 ++ [(xk, xv)], by omega, by omega, by rw [List.length_append]; rfl, by go_num, by simp; omega, (show cur2 ++ [(xk, xv)] = cur ++ (l.take (i + 1)).filter (inA f t false) by rw [HT.out, if_pos (by unfold inA; rw [HAD.out, HB1.out]; simp [hfa])]), HO3⟩
              | exact ⟨i + 1, A2, c2, cur2, by omega, by omega, rfl, by go_num, by omega, (show cur2 = cur ++ (l.take (i + 1)).filter (inA f t false) by rw [HT.out, if_neg (by unfold inA; rw [HAD.out, HB1.out]; simp [hfa]), List.append_nil]), HO2⟩
        · obtain rfl : i = n := by omega
          have HE : Hid (cur2 = cur ++ l.filter (inA f t false)) := by
            have z := HC2.out
            rw [List.take_of_length_le (by rw [HN.out]; omega)] at z
            exact z
          go_wp2_with fail
          go_roundg (go - 1)
          case measure => omega
          case rel => exact ⟨1, A2, c2, cur2, rfl, rfl, .inr (.inl ⟨rfl, by omega, by rw [HE.out, hcur]; simp⟩), HO2'⟩
    · -- round 1
      obtain ⟨wq, rfl⟩ : ∃ wq : World, wq = wr := ⟨_, rfl⟩
      obtain ⟨go, rfl⟩ : ∃ go : Nat, go = gk := ⟨_, rfl⟩
      have hcl : cur.length ≤ n := by
        rw [hcur]
        have := List.length_filter_le (inA f t false) l
        rw [HN.out] at this
        exact this
      go_wp2_with fail
      go_loopg [5, 7] (n + 1) (fun gj s5 s7 wy => ∃ i A2 c2 cur2, i + gj = n + 1 ∧ i ≤ n ∧ s5 = .slice A2 cur2.length c2 ∧ s7 = .int .i64 (i : Nat) ∧ cur2.length ≤ cur.length + i ∧ Hid (cur2 = cur ++ (l.take i).filter (inA f t true)) ∧ Hid (Out W1 wy A2 c2 cur2))
      case atStart => exact ⟨0, A, c, cur, by omega, by omega, rfl, rfl, by omega, (show cur = cur ++ (l.take 0).filter (inA f t true) by rw [List.take_zero]; simp), HO⟩
      case round =>
        obtain ⟨i, A2, c2, cur2, hig, hi, rfl, rfl, hcl2, HC2, HO2'⟩ := hrel
        have hb := HO2'.out.2
        have h3' := (hb.cell (p := ⟨g, 1, none⟩) hg1).trans hg3
        have hbx0 := (hb.cell (p := ⟨W.heap.size, 0, none⟩) hB1).trans hx0
        have hbx1 := (hb.cell (p := ⟨W.heap.size, 1, none⟩) hB1).trans hx1
        by_cases hlt : i < n
        · have hil : i < l.length := by rw [HN.out]; exact hlt
          obtain ⟨q, rfl⟩ := HRow.out.atBlock (by omega)
          have hq := (HRow.out.lt q rfl).2
          have ck := (hb.cell (p := ⟨q, i * 2, none⟩) hq).trans ((HRow.out.cellAt (i * 2) (by omega)).trans (itemCells_get0 l i hil))
          have cv := (hb.cell (p := ⟨q, i * 2 + 1, none⟩) hq).trans ((HRow.out.cellAt (i * 2 + 1) (by omega)).trans (itemCells_get1 l i hil))
          have htk : l.take (i + 1) = l.take i ++ [l[i]] := by rw [List.take_add_one, List.getElem?_eq_getElem hil]; rfl
          have hks := HKS.out _ (List.getElem_mem hil)
          obtain ⟨x, hx⟩ : ∃ x, l[i] = x := ⟨_, rfl⟩
          rw [hx] at ck cv htk hks
          obtain ⟨xk, xv⟩ := x
          have hks : xk.size ≤ 16 := hks
          have hT : cur ++ (l.take (i + 1)).filter (inA f t true) = cur2 ++ (if inA f t true (xk, xv) = true then [(xk, xv)] else []) := by
            rw [htk, List.filter_append, ← List.append_assoc, ← HC2.out]
            simp only [List.filter_cons, List.filter_nil]
          have HT := Lib.hid hT
          have ck : wr.cell? ⟨q, i * 2, none⟩ = some (.string xk) := ck
          have cv : wr.cell? ⟨q, i * 2 + 1, none⟩ = some (.string xv) := cv
          have hqr : q < wr.heap.size := by have := hb.size; omega
          have hgr : g < wr.heap.size := by have := hb.size; omega
          have hbr : W.heap.size < wr.heap.size := by have := hb.size; omega
          obtain ⟨ad, had⟩ : ∃ ad, addrN xk = ad := ⟨_, rfl⟩
          have hadl : ad < 18446744073709551616 := by rw [← had]; exact addrN_lt _
          have HAD : Hid (adr (xk, xv) = ad) := had
          have CA : Hid (∀ w, Calls Tryz.prog 33 #[.string xk] w fun e w' => e = .returned (.int .u64 (ad : Nat)) ∧ w = w') := fun w => by
            have z := refAddr_any xk w (by unfold maxLen; omega)
            rwa [had] at z
          obtain ⟨b1, hb1⟩ : ∃ b1, inB f t ad = b1 := ⟨_, rfl⟩
          have HB1 := Lib.hid hb1
          have CI : Hid (∀ w, Calls Tryz.prog 34 #[.agg #[.int .u64 (f : Nat), .int .u64 (t : Nat)], .int .u64 (ad : Nat)] w fun e w' => e = .returned (.bool b1) ∧ Below w.heap.size w w') := fun w => by
            have z := refIn_any f t ad w hf ht hadl
            rwa [hb1] at z
          have hcb : cur2.length ≤ 200000 := by omega
          clear htk hx hil hT had hb1 hb
          cases b1 <;> by_cases hfa : f ≤ ad
          all_goals first | (have d1 : decide (f ≤ ad) = true := decide_eq_true hfa) | (have d1 : decide (f ≤ ad) = false := decide_eq_false hfa)
          all_goals
            go_wp2_with (first
              | (go_at_call 33; (with_reducible refine (CA.out _).mono ?_); rintro e w1 ⟨rfl, rfl⟩)
              | (go_at_call 34; (with_reducible refine (CI.out _).mono ?_); rintro e w2 ⟨rfl, hb2⟩; have HO2 := Lib.hid (HO2'.out.below hb2); have z3 := (hb2.cell (p := ⟨g, 1, none⟩) hgr).trans h3'; have zk := (hb2.cell (p := ⟨q, i * 2, none⟩) hqr).trans ck; have zv := (hb2.cell (p := ⟨q, i * 2 + 1, none⟩) hqr).trans cv; have zx := (hb2.cell (p := ⟨W.heap.size, 0, none⟩) hbr).trans hbx0; clear hb2)
              | (at_builtin; go_must (refine wpList_append_any rfl (.tmp 43) (.tmp 51) 22 rfl W1.heap.size 59 i0 (.agg #[.string ⟨#[]⟩, .string ⟨#[]⟩]) 2 32 Tryz.underlying22 hi0 hz0 hs0 hb0 rfl (by decide) (.slice A2 cur2.length c2) cur2.length (itemCells cur2) rfl (HO2.out.1.alloc _) (.slice (some ⟨w2.heap.size, 0, none⟩) 1 1) 1 (itemCells [(xk, xv)]) rfl (item_src _ _ xk xv (heap_alloc_new _ _)) (items_one _) (by unfold maxLen; omega) (by omega) (by have := HO2.out.2.size; simp; omega) ?_); intro A3 c3 w3 ho3 hg3 hs3; have HO3 := Lib.hid (HO2.out.push ho3 hg3); clear ho3 hg3 hs3))
            go_roundg (gk - 1)
            case measure => omega
            case rel => first
              | exact ⟨i + 1, A3, c3, cur2 ++ [(xk, xv)], by omega, by omega, by rw [List.length_append]; rfl, by go_num, by simp; omega, (show cur2 ++ [(xk, xv)] = cur ++ (l.take (i + 1)).filter (inA f t true) by rw [HT.out, if_pos (by unfold inA; rw [HAD.out, HB1.out]; simp [hfa])]), HO3⟩
              | exact ⟨i + 1, A2, c2, cur2, by omega, by omega, rfl, by go_num, by omega, (show cur2 = cur ++ (l.take (i + 1)).filter (inA f t true) by rw [HT.out, if_neg (by unfold inA; rw [HAD.out, HB1.out]; simp [hfa]), List.append_nil]), HO2⟩
        · obtain rfl : i = n := by omega
          have HE : Hid (cur2 = cur ++ l.filter (inA f t true)) := by
            have z := HC2.out
            rw [List.take_of_length_le (by rw [HN.out]; omega)] at z
            exact z
          go_wp2_with fail
          go_roundg (go - 1)
          case measure => omega
          case rel => exact ⟨2, A2, c2, cur2, rfl, rfl, .inr (.inr ⟨rfl, by omega, by rw [HE.out, hcur]; rfl⟩), HO2'⟩
    · have HE := Lib.hid hcur
      clear hcur
      go_wp2_with fail
      go_ret
      exact ⟨A, c, by rw [← HE.out]; rfl, by rw [← HE.out]; exact own_mono HO.out.1 (by omega), acc HBW.out HO.out.2⟩
end Go.Proofs.YtglinhcldgpphaaGreat
