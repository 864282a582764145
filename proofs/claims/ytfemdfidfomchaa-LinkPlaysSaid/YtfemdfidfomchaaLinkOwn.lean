/-
  Clone of a list of items that the call does not own; own: a letter alike, whose lists are new.
-/
import Derived.Test.YtfemdfidfomchaaLinkBase
namespace Go.Proofs.Ytfemdfidfomchaa
open Go.RowKit

/-- what Clone leaves of a list -/
def Cloned (W : World) (S : Value) (zs : List Item) (e : Ending) (w : World) : Prop :=
  ∃ A c, e = .returned (.slice A zs.length c) ∧ SlAt w (.slice A zs.length c) zs ∧ Below W.heap.size W w ∧ (∀ q, (Value.slice A zs.length c).ownBlock = some q → W.heap.size ≤ q ∧ q < w.heap.size) ∧ (S = .slice none 0 0 → Value.slice A zs.length c = .slice none 0 0)
theorem lk_items_one (l : List Item) : ∀ u ∈ itemCells l, u.oneCell' = true := by
  intro u hu
  obtain ⟨x, _, hx⟩ := List.mem_flatMap.1 hu
  simp at hx
  rcases hx with rfl | rfl <;> rfl
theorem lk_infoItems : ∃ i, Try.prog.info? 108 = some i ∧ i.zero = some (.agg #[.string ⟨#[]⟩, .string ⟨#[]⟩]) ∧ i.size = 2 ∧ i.bytes = 32 := by
  have h : (Try.prog.info? 108).map (fun i => (i.zero, i.size, i.bytes)) = some (some (.agg #[.string ⟨#[]⟩, .string ⟨#[]⟩]), 2, 32) := by kernel_rfl
  obtain ⟨i, hi, hx⟩ := Option.map_eq_some_iff.1 h
  simp only [Prod.mk.injEq] at hx
  exact ⟨i, hi, hx⟩
theorem lk_its {W : World} {ad : Addr} {zs : List Item} (h : ItsAt W (some ad) zs) : ∀ j u, (itemCells zs)[j]? = some u → W.cell? (ad.add j) = some u := by
  intro j u hu
  have hj : j < (itemCells zs).length := (List.getElem?_eq_some_iff.1 hu).1
  rw [itemCells_length] at hj
  obtain ⟨b', off, h⟩ := h
  obtain ⟨h1, h2, h3, h4⟩ := h (j / 2) (by omega)
  injection h1 with h1
  subst h1
  rcases (by omega : j = j / 2 * 2 ∨ j = j / 2 * 2 + 1) with e | e
  · rw [e, itemCells_get0 zs (j / 2) (by omega)] at hu
    rw [Go.WideShapes.add_plain, e, ← hu]
    exact h3
  · rw [e, itemCells_get1 zs (j / 2) (by omega)] at hu
    rw [Go.WideShapes.add_plain, e, ← hu]
    exact h4
set_option maxHeartbeats 1000000 in
theorem cloneSl_any (S : Value) (zs : List Item) (W : World) (h : SlAt W S zs) (hk : zs.length ≤ 4398046511104) : Calls Try.prog 66 #[S] W (Cloned W S zs) := by
  obtain ⟨A, c, rfl, hc1, hc2, h⟩ := h
  rcases A with _ | ⟨b, o, sp⟩
  · have hz : zs = [] := by
      cases zs with
      | nil => rfl
      | cons x l =>
        obtain ⟨b, off, h⟩ := h
        have := (h 0 (by simp)).1
        cases this
    subst hz
    have hq := Lib.run_eql_slice_nil (P := Try.prog) W 44 108 none 0 c 0 0 Try.underlying44
    clear h
    go_enter Try.func66, Try.ntmps66
    go_wp2
    go_ret
    exact ⟨none, 0, rfl, SlAt.nil _, Below.refl _ _, fun q hq => (by cases hq), fun _ => rfl⟩
  · obtain ⟨i0, hi0, hz0, hs0, hb0⟩ := lk_infoItems
    obtain ⟨k, hkk⟩ : ∃ k, zs.length = k := ⟨_, rfl⟩
    have hnews := lk_its h
    have HS : ∀ ob : Obj, Hid (∀ j u, (itemCells zs)[j]? = some u → (W.alloc ob).cell? ((⟨b, o, sp⟩ : Addr).add j) = some u) := fun ob j u hj => Lib.cell?_alloc_some _ (hnews j u hj)
    have HO := fun cs => Lib.hid (World.ownsRow_made (base := W.heap.size) (e := 108) (size := 2) W cs 0 (Nat.le_refl _) (Nat.zero_le _))
    have HL := Lib.hid (show (itemCells zs).length = k * 2 by rw [itemCells_length, hkk])
    have HK := Lib.hid hkk
    have hq := Lib.run_eql_slice_nil (P := Try.prog) W 44 108 (some ⟨b, o, sp⟩) k c 0 0 Try.underlying44
    have h1 := lk_items_one zs
    rw [hkk] at hk
    unfold Cloned
    rw [hkk]
    clear hnews h hkk hc1
    go_enter Try.func66, Try.ntmps66
    go_wp2_with (at_builtin; go_must (refine wpList_append_own _ rfl (.tmp 5) (.tmp 6) 44 rfl W.heap.size 108 i0 (.agg #[.string ⟨#[]⟩, .string ⟨#[]⟩]) 2 32 Try.underlying44 hi0 hz0 hs0 hb0 rfl (by decide) (.slice (some ⟨W.heap.size, 0, none⟩) 0 0) 0 [] rfl ((HO _).out (by rfl)) ⟨b, o, sp⟩ k c (itemCells zs) rfl HL.out (HS _).out h1 (by unfold maxLen; omega) (by omega) (by simp) ?_); intro v' w1 hown1 hg1 hnil; have HO1 := Lib.hid hown1; have HG := Lib.hid hg1; clear hown1 hg1 hnil)
    go_ret
    have ho := HO1.out
    simp only [Nat.zero_add, List.nil_append] at ho
    obtain ⟨A, d, rfl⟩ := own_slice ho
    have hB : Below W.heap.size W w1 := ((Below.refl _ _).alloc (Nat.le_refl _) _).grown HG.out (by simp) (fun q hq => by have h9 : W.heap.size = q := Option.some.inj hq; omega)
    refine ⟨A, d, rfl, ?_, hB, fun q hq => ho.lt q hq, fun z => by cases z⟩
    have hK := HK.out
    subst hK
    rcases ho.2 with ⟨h0, h1⟩ | ⟨g, cap, cur, h0, hg, hh, hn, hm, _⟩
    · injection h0 with e1 e2 e3
      subst e1 e3
      exact ⟨none, 0, rfl, by omega, by unfold maxLen; omega, 0, 0, fun i hi => by omega⟩
    · injection h0 with e1 e2 e3
      subst e1 e3
      refine ⟨_, _, rfl, hn, hm, g, 0, fun i hi => ⟨rfl, bg_lt hh, ?_, ?_⟩⟩
      · rw [Nat.zero_add]; exact (ho.cellAt (i * 2) (by omega)).trans (itemCells_get0 zs i hi)
      · rw [Nat.zero_add]; exact (ho.cellAt (i * 2 + 1) (by omega)).trans (itemCells_get1 zs i hi)

/-- a letter alike, whose lists lie in new blocks -/
structure Alike (W w : World) (r r' : LR) : Prop where
  l : r'.l = r.l
  at_ : r'.At w r'.blocks
  new : ∀ q ∈ r'.blocks, W.heap.size ≤ q ∧ q < w.heap.size
  na : r.a = .slice none 0 0 → r'.a = .slice none 0 0
  nb : r.b = .slice none 0 0 → r'.b = .slice none 0 0
theorem Alike.light {W w : World} {k i : Int} {r : LR} (h : Alike W w (LR.light k i) r) : r = LR.light k i := by
  obtain ⟨l, a, b⟩ := r
  obtain ⟨rfl, _, _, h1, h2⟩ := h
  have h1 : a = .slice none 0 0 := h1 rfl
  have h2 : b = .slice none 0 0 := h2 rfl
  rw [h1, h2]
theorem Alike.below {W w w1 : World} {r r' : LR} (h : Alike W w r r') (hb : Below w.heap.size w w1) : Alike W w1 r r' := ⟨h.l, h.at_.below hb, fun q hq => ⟨(h.new q hq).1, Nat.lt_of_lt_of_le (h.new q hq).2 hb.size⟩, h.na, h.nb⟩
theorem Alike.touch {W w w1 : World} {r r' : LR} {G : List Nat} (h : Alike W w r r') (t : Touch G w w1) (hn : ∀ q ∈ G, q < W.heap.size ∨ q ∉ r'.blocks) : Alike W w1 r r' := ⟨h.l, h.at_.touch t (fun q hq z => by
  rcases hn q z with y | y
  · have := (h.new q hq).1; omega
  · exact y hq), fun q hq => ⟨(h.new q hq).1, Nat.lt_of_lt_of_le (h.new q hq).2 t.size⟩, h.na, h.nb⟩
theorem Alike.older {V W w : World} {r r' : LR} (h : Alike W w r r') (hs : V.heap.size ≤ W.heap.size) : Alike V w r r' := ⟨h.l, h.at_, fun q hq => ⟨Nat.le_trans hs (h.new q hq).1, (h.new q hq).2⟩, h.na, h.nb⟩
/-- its lists are not too long -/
def LR.Sm (r : LR) : Prop := r.l.ti.length ≤ 4398046511104 ∧ r.l.li.length ≤ 4398046511104
theorem light_sm (k i : Int) : (LR.light k i).Sm := ⟨by simp, by simp⟩
theorem lk_infoL : (Try.prog.info? 51).map (·.size) = some 21 := by kernel_rfl
theorem lk_result1 {fn : Func} {p : Tmp} (h : fn.results = #[.cell p 51]) (tmps : Array Value) (w : World) (g : Nat) (cs : Array Value) (hs : cs.size = 21) (hp : tmps.getD p undef = .pointer (some ⟨g, 0, none⟩)) (hb : w.heap[g]? = some (.cells cs 51)) :
    (results fn tmps).run Try.prog w = .ok (.agg cs) w :=
  results_cell_row h tmps w g 51 cs (0, 0) _ hp hb Try.underlying51 rfl (lk_infoL.trans (congrArg some hs.symm))
theorem setCell_heap {w : World} {b o : Nat} {cs : Array Value} {T : TypeId} (u : Value) (hb : w.heap[b]? = some (.cells cs T)) : (w.setCell ⟨b, o, none⟩ u).heap[b]? = some (.cells (cs.setIfInBounds o u) T) := by
  simp [World.setCell, Array.getElem?_modify, hb]
set_option maxRecDepth 20000 in
set_option maxHeartbeats 2000000 in
theorem own_any (r : LR) (W : World) (ha : SlAt W r.a r.l.ti) (hb : SlAt W r.b r.l.li) (hs : r.Sm) : Calls Try.prog 27 #[.agg r.cells] W fun e w' => ∃ r', e = .returned (.agg r'.cells) ∧ Below W.heap.size W w' ∧ Alike W w' r r' := by
  have CA : Hid (∀ w, Below W.heap.size W w → Calls Try.prog 66 #[r.a] w (Cloned w r.a r.l.ti)) := fun w hw => cloneSl_any r.a r.l.ti w (ha.below hw) hs.1
  have CB : Hid (∀ w, Below W.heap.size W w → Calls Try.prog 66 #[r.b] w (Cloned w r.b r.l.li)) := fun w hw => cloneSl_any r.b r.l.li w (hb.below hw) hs.2
  have b1 : ((W.alloc (.cells r.cells 51)).alloc (.cells (ltCells 0 0) 51)).heap[W.heap.size]? = some (.cells r.cells 51) := (Lib.alloc_old _ _ _ (by simp)).trans (heap_alloc_new W _)
  have b2 : ((W.alloc (.cells r.cells 51)).alloc (.cells (ltCells 0 0) 51)).heap[W.heap.size + 1]? = some (.cells (ltCells 0 0) 51) := by
    have := heap_alloc_new (W.alloc (.cells r.cells 51)) (.cells (ltCells 0 0) 51)
    simpa using this
  have B2 : Below W.heap.size W ((W.alloc (.cells r.cells 51)).alloc (.cells (ltCells 0 0) 51)) := ((Below.refl _ _).alloc (Nat.le_refl _) _).alloc (by simp) _
  have HA := Lib.hid ha
  have HBb := Lib.hid hb
  clear ha hb hs
  go_enter Try.func27, Try.ntmps27
  go_upto_region 1 with fail
  obtain ⟨w2, hw2⟩ : ∃ w2, (W.alloc (.cells r.cells 51)).alloc (.cells (ltCells 0 0) 51) = w2 := ⟨_, rfl⟩
  rw [hw2] at b1 b2 B2 ⊢
  clear hw2
  have c1 : w2.cell? ⟨W.heap.size, 18, none⟩ = some r.b := bg_cell b1 rfl
  have HB2 := Lib.hid B2
  have Hb1 := Lib.hid b1
  have Hb2 := Lib.hid b2
  clear b1 b2 B2
  go_upto_region 2 with (go_at_call 66; ((with_reducible refine (CB.out _ HB2.out).mono ?_); rintro e w3 ⟨A2, d2, rfl, h3, b3, n3, z3⟩; have f3 : w3.frozen? ⟨W.heap.size, 18, none⟩ = false := (by simp [World.frozen?, (b3.block _ (bg_lt Hb1.out)).trans Hb1.out]); have e3 := (b3.cell (p := ⟨W.heap.size, 18, none⟩) (bg_lt Hb1.out)).trans c1; have H3 := Lib.hid h3; have HB3 := Lib.hid b3; have HN3 := Lib.hid n3; have HZ3 := Lib.hid z3; clear h3 b3 n3 z3))
  have y1 := setCell_heap (.slice A2 r.l.li.length d2) (o := 18) ((HB3.out.block _ (bg_lt Hb1.out)).trans Hb1.out)
  have T4 : Touch [W.heap.size] w3 (w3.setCell ⟨W.heap.size, 18, none⟩ (.slice A2 r.l.li.length d2)) := (Touch.refl _ _).set (.inl (by simp)) _
  have y2 := (T4.block (W.heap.size + 1) (Nat.lt_of_lt_of_le (bg_lt Hb2.out) HB3.out.size) (by simp)).trans ((HB3.out.block _ (bg_lt Hb2.out)).trans Hb2.out)
  have S4 := slAt_touch H3.out T4 (fun q hq z => by simp at z; have := (HN3.out q hq).1; have := bg_lt Hb1.out; omega)
  have B4 : Below W.heap.size W (w3.setCell ⟨W.heap.size, 18, none⟩ (.slice A2 r.l.li.length d2)) := Touch.acc (acc HB2.out HB3.out) T4 (by simp)
  have N4 : ∀ q, (Value.slice A2 r.l.li.length d2).ownBlock = some q → W.heap.size + 2 ≤ q ∧ q < (w3.setCell ⟨W.heap.size, 18, none⟩ (.slice A2 r.l.li.length d2)).heap.size := fun q hq => ⟨by have := (HN3.out q hq).1; have := bg_lt Hb2.out; omega, by have := (HN3.out q hq).2; simpa [World.setCell] using this⟩
  obtain ⟨w4, hw4⟩ : ∃ w4, w3.setCell ⟨W.heap.size, 18, none⟩ (.slice A2 r.l.li.length d2) = w4 := ⟨_, rfl⟩
  rw [hw4] at y1 y2 S4 B4 N4 ⊢
  clear hw4 T4
  have c2 : w4.cell? ⟨W.heap.size, 11, none⟩ = some r.a := bg_cell y1 rfl
  have HY1 := Lib.hid y1
  have HY2 := Lib.hid y2
  have HS4 := Lib.hid S4
  have HB4 := Lib.hid B4
  have HN4 := Lib.hid N4
  clear y1 y2 S4 B4 N4 f3 e3 c1
  go_upto_region 3 with (go_at_call 66; ((with_reducible refine (CA.out _ HB4.out).mono ?_); rintro e w5 ⟨A1, d1, rfl, h5, b5, n5, z5⟩; have f5 : w5.frozen? ⟨W.heap.size, 11, none⟩ = false := (by simp [World.frozen?, (b5.block _ (bg_lt HY1.out)).trans HY1.out]); have e5 := (b5.cell (p := ⟨W.heap.size, 11, none⟩) (bg_lt HY1.out)).trans c2; have H5 := Lib.hid h5; have HB5 := Lib.hid b5; have HN5 := Lib.hid n5; have HZ5 := Lib.hid z5; clear h5 b5 n5 z5))
  have u1 := setCell_heap (.slice A1 r.l.ti.length d1) (o := 11) ((HB5.out.block _ (bg_lt HY1.out)).trans HY1.out)
  have T6 : Touch [W.heap.size] w5 (w5.setCell ⟨W.heap.size, 11, none⟩ (.slice A1 r.l.ti.length d1)) := (Touch.refl _ _).set (.inl (by simp)) _
  have u2 := (T6.block (W.heap.size + 1) (Nat.lt_of_lt_of_le (bg_lt HY2.out) HB5.out.size) (by simp)).trans ((HB5.out.block _ (bg_lt HY2.out)).trans HY2.out)
  have S6 := slAt_touch H5.out T6 (fun q hq z => by simp at z; have := (HN5.out q hq).1; have := bg_lt HY1.out; omega)
  have S7 := slAt_touch (HS4.out.below HB5.out) T6 (fun q hq z => by simp at z; have := (HN4.out q hq).1; omega)
  have B6 : Below W.heap.size W (w5.setCell ⟨W.heap.size, 11, none⟩ (.slice A1 r.l.ti.length d1)) := Touch.acc (acc HB4.out HB5.out) T6 (by simp)
  have N6 : ∀ q, (Value.slice A1 r.l.ti.length d1).ownBlock = some q → W.heap.size + 2 ≤ q ∧ q < (w5.setCell ⟨W.heap.size, 11, none⟩ (.slice A1 r.l.ti.length d1)).heap.size := fun q hq => ⟨by have := (HN5.out q hq).1; have := bg_lt HY2.out; omega, by have := (HN5.out q hq).2; simpa [World.setCell] using this⟩
  have N7 : ∀ q, (Value.slice A2 r.l.li.length d2).ownBlock = some q → W.heap.size + 2 ≤ q ∧ q < (w5.setCell ⟨W.heap.size, 11, none⟩ (.slice A1 r.l.ti.length d1)).heap.size := fun q hq => ⟨(HN4.out q hq).1, by have := (HN4.out q hq).2; have := HB5.out.size; have h9 : q < w5.heap.size := (by omega); simpa [World.setCell] using h9⟩
  obtain ⟨w6, hw6⟩ : ∃ w6, w5.setCell ⟨W.heap.size, 11, none⟩ (.slice A1 r.l.ti.length d1) = w6 := ⟨_, rfl⟩
  rw [hw6] at u1 u2 S6 S7 B6 N6 N7 ⊢
  clear hw6 T6
  obtain ⟨r', hr'⟩ : ∃ r' : LR, LR.mk r.l (.slice A1 r.l.ti.length d1) (.slice A2 r.l.li.length d2) = r' := ⟨_, rfl⟩
  have u1 : w6.heap[W.heap.size]? = some (.cells r'.cells 51) := by rw [← hr']; exact u1
  have hsz : (Try.prog.info? 51).map (·.size) = some r'.cells.size := lk_infoL
  have hone : r'.cells.all (·.oneCell') = true := LR.one (by rw [← hr']; exact ⟨⟨_, _, _, rfl⟩, _, _, _, rfl⟩)
  have hold : (ltCells 0 0).size = r'.cells.size := rfl
  have HU1 := Lib.hid u1
  have HU2 := Lib.hid u2
  have HE := Lib.hid hr'
  clear u1 u2 f5 e5 c2 hr'
  go_wp2_with (first
    | (with_reducible (show wpList _ _ _ (⟨some 13, Op.load _ _, _, _, _, _⟩ :: _) _ _); go_must (refine wpList_load_row rfl 51 (.tmp 1) rfl W.heap.size rfl 51 r'.cells (0, 0) _ HU1.out Try.underlying51 rfl hsz ?_))
    | (with_reducible (show wpList _ _ _ (⟨none, Op.store _ (Operand.tmp 2) _, _, _, _, _⟩ :: _) _ _); go_must (refine wpList_store_row rfl 51 (.tmp 2) (.tmp 13) rfl (W.heap.size + 1) r'.cells rfl rfl 51 (ltCells 0 0) HU2.out hsz hold hone ?_)))
  refine bodyPost_ret (lk_result1 rfl _ _ (W.heap.size + 1) r'.cells rfl rfl (bg_row _ HU2.out)) rfl ?_
  have T7 := bg_touch w6 (W.heap.size + 1) r'.cells
  refine ⟨r', rfl, B6.trans (bg_below _ (by omega)), ?_⟩
  have hE := HE.out
  subst hE
  refine ⟨rfl, ⟨slAt_touch S6 T7 fun q hq z => ?_, slAt_touch S7 T7 fun q hq z => ?_, fun q hq => hq⟩, fun q hq => ?_, fun h => HZ5.out h, fun h => HZ3.out h⟩
  · simp at z; have := (N6 q hq).1; omega
  · simp at z; have := (N7 q hq).1; omega
  · have hz := T7.size
    rcases List.mem_append.1 hq with z | z
    · have := N6 q (by simpa using z); omega
    · have := N7 q (by simpa using z); omega
end Go.Proofs.Ytfemdfidfomchaa
