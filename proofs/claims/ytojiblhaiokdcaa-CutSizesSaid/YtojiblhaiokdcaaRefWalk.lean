/-
  The walks of the document's own ways: Range, Arc, Middle.
-/
import Derived.Test.YtojiblhaiokdcaaWalkPlain
import Derived.Test.YtojiblhaiokdcaaRefShelf
import Derived.Test.YtojiblhaiokdcaaShelfItems
import Derived.Test.YtojiblhaiokdcaaKeyFirst
import Derived.Test.YtojiblhaiokdcaaArcRef
namespace Go.Proofs.Ytojiblhaiokdcaa
open Go.RowKit

theorem rangeL_snoc (l : List Item) (x : Item) (f t : ByteArray) : rangeL (l ++ [x]) f t = rangeL l f t ++ (if (!lessB x.1 f && (t.size == 0 || lessB x.1 t)) = true then [x] else []) := by
  unfold rangeL
  rw [List.filter_append]
  congr 1
  simp only [List.filter_cons, List.filter_nil]
/-- a list that grows in memory of the call's own -/
def Out (W wx : World) (A : Option Addr) (c : Nat) (cur : List Item) : Prop :=
  wx.ownsRow W.heap.size 39 2 (.slice A cur.length c) cur.length (itemCells cur) ∧ Below W.heap.size W wx
theorem Out.nil (W : World) : Out W W none 0 [] := ⟨World.ownsRow_nil _ _ _ _, Below.refl _ _⟩
theorem Out.below {W w w1 : World} {A : Option Addr} {c : Nat} {cur : List Item} (h : Out W w A c cur) (hb : Below w.heap.size w w1) : Out W w1 A c cur := ⟨(Touch.ofBelow (F := []) hb).row h.1 (by simp), acc h.2 hb⟩
/-- an item put behind it -/
theorem Out.push {W w w3 : World} {A A3 : Option Addr} {c c3 : Nat} {cur : List Item} {x : Item} {o : Obj} (h : Out W w A c cur) (ho : w3.ownsRow W.heap.size 39 2 (.slice A3 (cur.length + 1) c3) (cur.length + 1) (itemCells cur ++ itemCells [x])) (hg : (w.alloc o).grownBy w3 (Value.slice A cur.length c).ownBlock) : Out W w3 A3 c3 (cur ++ [x]) := by
  refine ⟨item_push ho rfl, ?_⟩
  have t : Touch (Value.slice A cur.length c).ownBlock.toList w w3 := ((Touch.refl _ w).alloc o).grown hg (fun k hk => .inl (by simp [hk]))
  exact Touch.acc h.2 t (fun k hk => (h.1.lt k (by simpa using hk)).1)
/-- what the reference has, at a later world -/
theorem RS.later {W w : World} {g : Nat} {F : List Nat} {most : Int} {l : List Item} (h : RS W g F most l) (hb : Below W.heap.size W w) : RS w g F most l := h.touch (Touch.ofBelow (F := []) hb) (by simp) (by simp)
set_option maxHeartbeats 4000000 in
theorem refRange_any (g : Nat) (F : List Nat) (most : Int) (l : List Item) (f t : ByteArray) (W : World) (hR : RS W g F most l) (hl : l.length ≤ 100000) :
    Calls Try.prog 20 #[.pointer (some ⟨g, 0, none⟩), .string f, .string t] W (NewItems W (rangeL l f t)) := by
  obtain ⟨i0, hi0, hz0, hs0, hb0⟩ := infoItems
  obtain ⟨A0, c0, ⟨h1, -, h3, -, -⟩, h6, -, -⟩ := hR
  have HRow := Lib.hid h6
  obtain ⟨n, hn⟩ : ∃ n, l.length = n := ⟨_, rfl⟩
  have HN := Lib.hid hn
  rw [hn] at h3 hl
  clear h6 hn
  go_enter Try.func20, Try.ntmps20
  go_wp2_with fail
  go_loopg [7, 8] (n + 1) (fun gh s7 s8 wx => ∃ i A c cur, i + gh = n + 1 ∧ i ≤ n ∧ s7 = .slice A cur.length c ∧ s8 = .int .i64 (i : Nat) ∧ cur.length ≤ i ∧ Hid (cur = rangeL (l.take i) f t) ∧ Hid (Out W wx A c cur))
  case atStart => exact ⟨0, none, 0, [], by omega, by omega, rfl, rfl, by simp, (show [] = rangeL (l.take 0) f t by rw [List.take_zero]; rfl), Out.nil W⟩
  case round =>
    obtain ⟨i, A, c, cur, hig, hi, rfl, rfl, hcl, HC, HO⟩ := hrel
    have hb := HO.out.2
    have h3' := (hb.cell (p := ⟨g, 1, none⟩) h1).trans h3
    by_cases hlt : i < n
    · have hil : i < l.length := by rw [HN.out]; exact hlt
      obtain ⟨q, rfl⟩ := HRow.out.atBlock (by omega)
      have hq := (HRow.out.lt q rfl).2
      have ck := (hb.cell (p := ⟨q, i * 2, none⟩) hq).trans ((HRow.out.cellAt (i * 2) (by omega)).trans (itemCells_get0 l i hil))
      have cv := (hb.cell (p := ⟨q, i * 2 + 1, none⟩) hq).trans ((HRow.out.cellAt (i * 2 + 1) (by omega)).trans (itemCells_get1 l i hil))
      have htk : l.take (i + 1) = l.take i ++ [l[i]] := by rw [List.take_add_one, List.getElem?_eq_getElem hil]; rfl
      obtain ⟨x, hx⟩ : ∃ x, l[i] = x := ⟨_, rfl⟩
      rw [hx] at ck cv htk
      obtain ⟨xk, xv⟩ := x
      have hT : rangeL (l.take (i + 1)) f t = cur ++ (if (!lessB xk f && (t.size == 0 || lessB xk t)) = true then [(xk, xv)] else []) := by
        rw [htk, rangeL_snoc, ← HC.out]
      have HT := Lib.hid hT
      have ck : wr.cell? ⟨q, i * 2, none⟩ = some (.string xk) := ck
      have cv : wr.cell? ⟨q, i * 2 + 1, none⟩ = some (.string xv) := cv
      clear htk hx hb hil hT
      have hsz := HO.out.2.size
      by_cases ht : t = ⟨#[]⟩
      · subst ht
        cases a1 : Op.bytesLess xk.toList f.toList
        · go_wp2_with (at_builtin; go_must (refine wpList_append_any rfl (.tmp 44) (.tmp 52) 22 rfl W.heap.size 39 i0 (.agg #[.string ⟨#[]⟩, .string ⟨#[]⟩]) 2 32 Try.underlying22 hi0 hz0 hs0 hb0 rfl (by decide) (.slice A cur.length c) cur.length (itemCells cur) rfl (HO.out.1.alloc _) (.slice (some ⟨wr.heap.size, 0, none⟩) 1 1) 1 (itemCells [(xk, xv)]) rfl (item_src _ _ xk xv (heap_alloc_new _ _)) (items_one _) (by unfold maxLen; omega) (by omega) (by simp; omega) ?_); intro A3 c3 w3 ho3 hg3 hs3; have HO3 := Lib.hid (HO.out.push ho3 hg3); clear ho3 hg3 hs3)
          go_roundg (gk - 1)
          case measure => omega
          case rel => exact ⟨i + 1, A3, c3, cur ++ [(xk, xv)], by omega, by omega, by rw [List.length_append]; rfl, by go_num, by simp; omega, (show cur ++ [(xk, xv)] = rangeL (l.take (i + 1)) f _ by rw [HT.out, show lessB xk f = false from a1]; rfl), HO3⟩
        · go_wp2_with fail
          go_roundg (gk - 1)
          case measure => omega
          case rel => exact ⟨i + 1, A, c, cur, by omega, by omega, rfl, by go_num, by omega, (show cur = rangeL (l.take (i + 1)) f _ by rw [HT.out, show lessB xk f = true from a1]; simp), HO⟩
      · have e0 : (t.toList == ([] : List UInt8)) = false := by
          rw [beq_eq_false_iff_ne]
          exact fun e => ht (toList_inj (e.trans (by rw [Lib.toList_data])))
        have e1 : (t.size == 0) = false := by
          rw [beq_eq_false_iff_ne]
          exact fun e => ht (ByteArray.ext (Array.eq_empty_of_size_eq_zero e))
        cases a1 : Op.bytesLess xk.toList f.toList
        · cases a2 : Op.bytesLess xk.toList t.toList
          · go_wp2_with fail
            go_roundg (gk - 1)
            case measure => omega
            case rel => exact ⟨i + 1, A, c, cur, by omega, by omega, rfl, by go_num, by omega, (show cur = rangeL (l.take (i + 1)) f _ by rw [HT.out, show lessB xk f = false from a1, show lessB xk t = false from a2, e1]; simp), HO⟩
          · go_wp2_with (at_builtin; go_must (refine wpList_append_any rfl (.tmp 44) (.tmp 52) 22 rfl W.heap.size 39 i0 (.agg #[.string ⟨#[]⟩, .string ⟨#[]⟩]) 2 32 Try.underlying22 hi0 hz0 hs0 hb0 rfl (by decide) (.slice A cur.length c) cur.length (itemCells cur) rfl (HO.out.1.alloc _) (.slice (some ⟨wr.heap.size, 0, none⟩) 1 1) 1 (itemCells [(xk, xv)]) rfl (item_src _ _ xk xv (heap_alloc_new _ _)) (items_one _) (by unfold maxLen; omega) (by omega) (by simp; omega) ?_); intro A3 c3 w3 ho3 hg3 hs3; have HO3 := Lib.hid (HO.out.push ho3 hg3); clear ho3 hg3 hs3)
            go_roundg (gk - 1)
            case measure => omega
            case rel => exact ⟨i + 1, A3, c3, cur ++ [(xk, xv)], by omega, by omega, by rw [List.length_append]; rfl, by go_num, by simp; omega, (show cur ++ [(xk, xv)] = rangeL (l.take (i + 1)) f _ by rw [HT.out, show lessB xk f = false from a1, show lessB xk t = true from a2, e1]; rfl), HO3⟩
        · go_wp2_with fail
          go_roundg (gk - 1)
          case measure => omega
          case rel => exact ⟨i + 1, A, c, cur, by omega, by omega, rfl, by go_num, by omega, (show cur = rangeL (l.take (i + 1)) f _ by rw [HT.out, show lessB xk f = true from a1]; simp), HO⟩
    · obtain rfl : i = n := by omega
      have HE : Hid (cur = rangeL l f t) := by
        have z := HC.out
        rw [List.take_of_length_le (by rw [HN.out]; omega)] at z
        exact z
      go_wp2_with fail
      go_ret
      exact ⟨A, c, by rw [← HE.out]; rfl, by rw [← HE.out]; exact HO.out.1, HO.out.2⟩

end Go.Proofs.Ytojiblhaiokdcaa
