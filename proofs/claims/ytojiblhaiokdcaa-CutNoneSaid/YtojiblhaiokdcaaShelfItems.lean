/-
  The walk of gather: the items of a part put behind a list.
  The walk of Items.
-/
import Derived.Test.YtojiblhaiokdcaaShelfWay
import Derived.Test.YtojiblhaiokdcaaBookItems
import Derived.Deep.RegionHeld3
import Derived.Deep.DrawnRows
namespace Go.Proofs.Ytojiblhaiokdcaa
open Go.RowKit
attribute [local go_sem ↓] Go.wp_at_zero Go.wp_at_succ

/-- what lies below the place i -/
def chl (cs : List Ch) (i : Nat) : List Item := (cs[i]?.map Ch.l).getD []
theorem weave_next {cs : List Ch} {its : List Item} {i : Nat} {x : Item} (hc : cs = [] ∨ cs.length = its.length + 1) (hx : its[i]? = some x) : weave (cs.drop i) (its.drop i) = chl cs i ++ x :: weave (cs.drop (i + 1)) (its.drop (i + 1)) := by
  obtain ⟨hi, rfl⟩ := List.getElem?_eq_some_iff.1 hx
  rw [List.drop_eq_getElem_cons hi]
  rcases hc with rfl | hc
  · simp [chl, weave]
  · have hi2 : i < cs.length := by omega
    rw [List.drop_eq_getElem_cons hi2]
    simp [chl, weave, List.getElem?_eq_getElem hi2]
theorem weave_last {cs : List Ch} {its : List Item} (hc : cs = [] ∨ cs.length = its.length + 1) : weave (cs.drop its.length) (its.drop its.length) = chl cs its.length := by
  rw [List.drop_of_length_le (Nat.le_refl _)]
  rcases hc with rfl | hc
  · simp [chl, weave]
  · have hi2 : its.length < cs.length := by omega
    rw [List.drop_eq_getElem_cons hi2]
    simp [chl, weave, List.getElem?_eq_getElem hi2]
abbrev GRow (W : World) (b : Nat) (v : Value) (l : List Item) : Prop := W.ownsRow b 39 2 v l.length (itemCells l)
/-- what gather answers: the list with the part's items behind; only its own row may be turned -/
def GPost (W : World) (b : Nat) (v : Value) (l0 l : List Item) (e : Ending) (w : World) : Prop :=
  ∃ A c, e = .returned (.slice A (l0 ++ l).length c) ∧ GRow w b (.slice A (l0 ++ l).length c) (l0 ++ l) ∧ Touch v.ownBlock.toList W w ∧ SameOrNew W v (.slice A (l0 ++ l).length c)
set_option maxHeartbeats 1000000 in
theorem gather_nil (W : World) (b : Nat) (A : Option Addr) (c : Nat) (l0 : List Item) (h : GRow W b (.slice A l0.length c) l0) :
    Calls Try.prog 38 #[.pointer none, .slice A l0.length c] W (GPost W b (.slice A l0.length c) l0 []) := by
  have H := Lib.hid h
  clear h
  go_enter Try.func38, Try.ntmps38
  go_wp2
  go_ret
  exact ⟨A, c, by rw [List.append_nil]; rfl, by rw [List.append_nil]; exact H.out, Touch.refl _ _, by rw [List.append_nil]; exact fun z e => .inl e⟩
/-- what is kept while an item is put behind the list: only the list's own row may be turned -/
def Kept (V : World) (lst : List Nat) (A : World → Prop) (w : World) : Prop := Touch lst V w ∧ A w
theorem kept_start {V : World} {lst : List Nat} {A : World → Prop} (HSS : ∀ w', Touch lst V w' → A w') : Kept V lst A V.drew := ⟨(Touch.refl _ _).drew, HSS _ (Touch.refl _ _).drew⟩
theorem kept_touch {V : World} {lst : List Nat} {A : World → Prop} (HSS : ∀ w', Touch lst V w' → A w') {w w1 : World} (t : Touch lst w w1) (h : Kept V lst A w) : Kept V lst A w1 := ⟨h.1.trans t (fun _ hx => .inl hx), HSS _ (h.1.trans t (fun _ hx => .inl hx))⟩
theorem kept_alloc {V : World} {lst : List Nat} {A : World → Prop} (HSS : ∀ w', Touch lst V w' → A w') {w : World} (o : Obj) (h : Kept V lst A w) : Kept V lst A (w.alloc o) := ⟨h.1.alloc o, HSS _ (h.1.alloc o)⟩
theorem kept_grown {V : World} {lst : List Nat} {A : World → Prop} (HSS : ∀ w', Touch lst V w' → A w') {w w1 : World} {row : Option Nat} (hr : ∀ k, row = some k → k ∈ lst ∨ V.heap.size ≤ k) (hg : w.grownBy w1 row) (h : Kept V lst A w) : Kept V lst A w1 := ⟨h.1.grown hg hr, HSS _ (h.1.grown hg hr)⟩
theorem item_src (Wc : World) (b : Nat) (xk xv : ByteArray) (hh : Wc.heap[b]? = some (.cells #[.string xk, .string xv] 39 (0, 0))) : From Wc 2 (.slice (some ⟨b, 0, none⟩) 1 1) 1 (itemCells [(xk, xv)]) := by
  refine .inr ⟨_, _, rfl, rfl, fun j' u hj => ?_⟩
  rw [Go.WideShapes.add_plain, Nat.zero_add, cell_of_row Wc b j' _ 39 (0, 0) hh]
  simpa [itemCells] using hj
theorem row_new {V V' : World} {lst : List Nat} {v v2 : Value} (hlst : v.ownBlock.toList = lst) (hsz : V.heap.size ≤ V'.heap.size) (hs : SameOrNew V' v v2) : ∀ k, v2.ownBlock = some k → k ∈ lst ∨ V.heap.size ≤ k := fun k e => by
  rcases hs k e with z | z
  · exact .inl (by rw [← hlst, z]; simp)
  · exact .inr (by omega)
theorem src_late {V w2 : World} {lst : List Nat} {b n : Nat} {o : Obj} (t : Touch lst (V.alloc o).drew w2) (hl : ∀ k ∈ lst, b ≤ k ∧ k < n) (hz : V.heap.size = n + 1) : w2.heap[n + 1]? = some o := by
  rw [← hz]
  exact (t.block V.heap.size (by show V.heap.size < (V.alloc o).heap.size; simp) (fun e => by have := (hl _ e).2; omega)).trans (heap_alloc_new V o)
theorem item_push {w : World} {b : Nat} {A : Option Addr} {c n : Nat} {l : List Item} {x : Item} (h : w.ownsRow b 39 2 (.slice A (n + 1) c) (n + 1) (itemCells l ++ itemCells [x])) (hn : l.length = n) : GRow w b (.slice A (l ++ [x]).length c) (l ++ [x]) := by
  subst hn
  have e : (l ++ [x]).length = l.length + 1 := by simp
  show World.ownsRow _ _ _ _ _ _ _
  rw [e]
  rw [show itemCells (l ++ [x]) = itemCells l ++ itemCells [x] by simp [itemCells]]
  exact h
theorem row_next {V V' : World} {lst : List Nat} {v v2 : Value} (hr : ∀ k, v.ownBlock = some k → k ∈ lst ∨ V.heap.size ≤ k) (hsz : V.heap.size ≤ V'.heap.size) (hs : SameOrNew V' v v2) : ∀ k, v2.ownBlock = some k → k ∈ lst ∨ V.heap.size ≤ k := fun k e => by
  rcases hs k e with z | z
  · exact hr k z
  · exact .inr (by omega)
theorem lst_old {W : World} {v0 v : Value} {lst : List Nat} (hlst : v.ownBlock.toList = lst) (hs : SameOrNew W v0 v) : ∀ k ∈ lst, k ∈ v0.ownBlock.toList ∨ W.heap.size ≤ k := fun k hk => by
  rw [← hlst] at hk
  have e : v.ownBlock = some k := by simpa using hk
  rcases hs k e with z | z
  · exact .inl (by rw [z]; simp)
  · exact .inr z
theorem own_on {W V : World} {v0 v v3 : Value} {lst : List Nat} (hlst : v.ownBlock.toList = lst) (hs : SameOrNew W v0 v) (hsz : W.heap.size ≤ V.heap.size) (h3 : ∀ k, v3.ownBlock = some k → k ∈ lst ∨ V.heap.size ≤ k) : SameOrNew W v0 v3 := fun k e => by
  rcases h3 k e with z | z
  · rw [← hlst] at z
    exact hs k (by simpa using z)
  · exact .inr (by omega)
theorem gather_on {cs : List Ch} {its cur cur2 all : List Item} {i : Nat} {x : Item} (hw : cur ++ weave (cs.drop i) (its.drop i) = all) (hc2 : cur ++ chl cs i = cur2) (hc : cs = [] ∨ cs.length = its.length + 1) (hx : its[i]? = some x) : (cur2 ++ [x]) ++ weave (cs.drop (i + 1)) (its.drop (i + 1)) = all := by
  rw [weave_next hc hx] at hw
  rw [← hw, ← hc2]
  simp
theorem down_opt (W : World) {m : NMap} {F : List Nat} (hS : Sto W m F) {g i : Nat} {its : List Item} {ps : List Nat} (hm : m g = some ⟨its, ps⟩) (hp : ps = [] ∨ (ps.length = its.length + 1 ∧ its.length ≤ 6)) (hi : i ≤ its.length) :
    Calls Try.prog 52 #[.pointer (some ⟨g, 0, none⟩), .int .i64 (i : Nat)] W fun e w => e = .returned (optPtr ps[i]?) ∧ W = w := by
  rcases hp with rfl | ⟨h1, h2⟩
  · exact (down_sto W hS hm (by simp)).1 rfl
  · have h3 : i < ps.length := by omega
    rw [List.getElem?_eq_getElem h3]
    exact (down_sto W hS hm (by omega)).2 _ (List.getElem?_eq_getElem h3)
set_option maxRecDepth 100000 in
set_option maxHeartbeats 4000000 in
theorem gather_node {m : NMap} {F : List Nat} {b g : Nat} {its : List Item} {ps : List Nat} {cs : List Ch} (hm : m g = some ⟨its, ps⟩) (hn1 : 1 ≤ its.length) (hn : its.length ≤ 6) (hps : cs.map Ch.g = ps) (hcs : cs = [] ∨ cs.length = its.length + 1)
    (GC : ∀ i, i ≤ its.length → ∀ (V : World) (A : Option Addr) (c : Nat) (l0 : List Item), Sto V m F → b ≤ V.heap.size → GRow V b (.slice A l0.length c) l0 → l0.length + (chl cs i).length ≤ 1000 → Calls Try.prog 38 #[optPtr ps[i]?, .slice A l0.length c] V (GPost V b (.slice A l0.length c) l0 (chl cs i)))
    (W : World) (A0 : Option Addr) (c0 : Nat) (l0 : List Item) (hS : Sto W m F) (hb : b ≤ W.heap.size) (hF : ∀ q ∈ F, q < b) (hR : GRow W b (.slice A0 l0.length c0) l0) (hl : l0.length + (weave cs its).length ≤ 1000) :
    Calls Try.prog 38 #[.pointer (some ⟨g, 0, none⟩), .slice A0 l0.length c0] W (GPost W b (.slice A0 l0.length c0) l0 (weave cs its)) := by
  obtain ⟨i0, hi0, hz0, hs0, hb0⟩ := infoItems
  obtain ⟨v, u, hN, hbl, -⟩ := hS.at hm
  have hN : NdX W g its ps v u := hN
  obtain ⟨q, cq, rfl, hq1, hq2⟩ := row_at hN.r0 (by omega)
  have hqb : q < b := hF q (hbl q (mem_blocks.2 (.inl rfl)))
  have f0 := hN.c0
  have hgl := hN.lt
  have hgb : g < b := hF g (hS.mem hm)
  have hql : q < W.heap.size := (hN.r0.lt q rfl).2
  have HROW : Hid (Row W (.slice (some ⟨q, 0, none⟩) its.length cq) its) := hN.r0
  have HGC := Lib.hid GC
  have HS := Lib.hid hS
  have HF := Lib.hid hF
  have HR := Lib.hid hR
  have HPS : Hid (ps = [] ∨ (ps.length = its.length + 1 ∧ its.length ≤ 6)) := by
    rw [← hps, List.length_map]
    rcases hcs with z | z
    · exact .inl (by rw [z]; rfl)
    · exact .inr ⟨z, hn⟩
  have HM := Lib.hid hm
  have HCS := Lib.hid hcs
  obtain ⟨nn, hnn⟩ : ∃ nn, its.length = nn := ⟨_, rfl⟩
  have HN := Lib.hid hnn
  rw [hnn] at f0 hn hn1
  clear GC hS hF hR hm hcs hN hq1 hq2 hnn hps
  go_enter Try.func38, Try.ntmps38
  go_wp2_with fail
  have HV0 : Hid (∀ k, k ∈ (Value.slice A0 l0.length c0).ownBlock.toList → b ≤ k) := fun k hk => (HR.out.lt k (by simpa using hk)).1
  go_loopg [1, 15] (nn + 1) (fun gi s1 s15 wy => ∃ i A c cur, i + gi = nn + 1 ∧ i ≤ nn ∧ s1 = .slice A cur.length c ∧ s15 = .int .i64 (i : Nat) ∧ Hid (cur ++ weave (cs.drop i) (its.drop i) = l0 ++ weave cs its) ∧ Hid (GRow wy b (.slice A cur.length c) cur) ∧ Hid (Touch (Value.slice A0 l0.length c0).ownBlock.toList W wy) ∧ Hid (SameOrNew W (.slice A0 l0.length c0) (.slice A cur.length c)))
  case atStart => exact ⟨0, A0, c0, l0, by omega, by omega, rfl, rfl, rfl, HR.out, Touch.refl _ _, fun z e => .inl e⟩
  case round =>
    obtain ⟨i, A, c, cur, hig, hi, rfl, rfl, HW, HO, HT, HSN⟩ := hrel
    have hsz := HT.out.size
    have hFo : ∀ z ∈ F, z ∉ (Value.slice A0 l0.length c0).ownBlock.toList := fun z hz e => by have := HF.out z hz; have := HV0.out z e; omega
    have HSr : Hid (Sto wr m F) := HS.out.touch HT.out hFo
    by_cases hlt : i < nn
    · have hlt' : i < its.length := by rw [HN.out]; exact hlt
      have HX : Hid (its[i]? = some its[i]) := List.getElem?_eq_getElem hlt'
      have ck := (HT.out.cell (p := ⟨q, i * 2, none⟩) hql (fun e => by have := HV0.out q e; omega)).trans ((HROW.out.cellAt (i * 2) (by omega)).trans (itemCells_get0 its i hlt'))
      have cv := (HT.out.cell (p := ⟨q, i * 2 + 1, none⟩) hql (fun e => by have := HV0.out q e; omega)).trans ((HROW.out.cellAt (i * 2 + 1) (by omega)).trans (itemCells_get1 its i hlt'))
      have i1 : (i : Int) < (nn : Int) := by omega
      have hqr : q < wr.heap.size := by omega
      generalize its[i] = x at *
      obtain ⟨xk, xv⟩ := x
      have hlen := congrArg List.length HW.out
      rw [weave_next HCS.out HX.out] at hlen
      simp only [List.length_append, List.length_cons] at hlen
      have hlen2 : cur.length + (chl cs i).length + 1 ≤ 1000 := by omega
      obtain ⟨cur2, hcur2⟩ : ∃ cur2, cur ++ chl cs i = cur2 := ⟨_, rfl⟩
      have hlen3 : cur2.length + 1 ≤ 1000 := by rw [← hcur2, List.length_append]; exact hlen2
      obtain ⟨lst, hlst⟩ : ∃ lst, (Value.slice A cur.length c).ownBlock.toList = lst := ⟨_, rfl⟩
      obtain ⟨V, hV⟩ : ∃ V, wr.alloc (.cells #[.string xk, .string xv] 39) = V := ⟨_, rfl⟩
      have tV : Touch [] wr V := by rw [← hV]; exact (Touch.refl _ _).alloc _
      have hzV : V.heap.size = wr.heap.size + 1 := by rw [← hV]; simp
      have hlb : ∀ k ∈ lst, b ≤ k ∧ k < wr.heap.size := fun k hk => HO.out.lt k (by rw [← hlst] at hk; simpa using hk)
      have bx0 : V.cell? ⟨wr.heap.size, 0, none⟩ = some (.string xk) := by rw [← hV]; exact (Box2.fresh _ _ _ _).c0
      have bx1 : V.cell? ⟨wr.heap.size, 1, none⟩ = some (.string xv) := by rw [← hV]; exact (Box2.fresh _ _ _ _).c1
      have HSS : Hid (∀ w', Touch lst V w' → w'.cell? ⟨wr.heap.size, 0, none⟩ = some (.string xk) ∧ w'.cell? ⟨wr.heap.size, 1, none⟩ = some (.string xv)) := fun w' t =>
        have hn : wr.heap.size ∉ lst := fun e => Nat.lt_irrefl _ (hlb _ e).2
        ⟨(t.cell (p := ⟨wr.heap.size, 0, none⟩) (by show wr.heap.size < V.heap.size; omega) hn).trans bx0, (t.cell (p := ⟨wr.heap.size, 1, none⟩) (by show wr.heap.size < V.heap.size; omega) hn).trans bx1⟩
      have hSV : ∀ V', Touch lst V V' → Sto V' m F := fun V' t => (HSr.out.new tV).touch t (fun z hz e => by have := HF.out z hz; have := (hlb z e).1; omega)
      obtain ⟨pi, hpi⟩ : ∃ pi, optPtr ps[i]? = pi := ⟨_, rfl⟩
      have CDN : Hid (∀ (P : Prop) (V' : World), Touch lst V V' ∧ P → Calls Try.prog 52 #[.pointer (some ⟨g, 0, none⟩), .int .i64 (i : Nat)] V' fun e w => e = .returned pi ∧ V' = w) := fun P V' hP => by
        rw [← hpi]
        exact down_opt V' (hSV V' hP.1) HM.out HPS.out (by rw [HN.out]; exact hi)
      have CG : Hid (∀ V', Touch [] V V' → Calls Try.prog 38 #[pi, .slice A cur.length c] V' fun e w => ∃ A2 c2, e = .returned (.slice A2 cur2.length c2) ∧ GRow w b (.slice A2 cur2.length c2) cur2 ∧ Touch lst V' w ∧ ∀ k, (Value.slice A2 cur2.length c2).ownBlock = some k → k ∈ lst ∨ V.heap.size ≤ k) := fun V' t => by
        have ts := t.size
        rw [← hpi]
        refine (HGC.out i (by rw [HN.out]; exact hi) V' A c cur ((HSr.out.new tV).new t) (by omega) (t.row (tV.row HO.out (by simp)) (by simp)) (by omega)).mono ?_
        rintro e w ⟨A2, c2, rfl, z1, z2, z3⟩
        rw [hcur2] at z1 z3 ⊢
        rw [hlst] at z2
        exact ⟨A2, c2, rfl, z1, z2, row_new hlst ts z3⟩
      have HC2 := Lib.hid hcur2
      have HLS := Lib.hid hlst
      have HLB := Lib.hid hlb
      have HTV := Lib.hid tV
      have HHI := Lib.hid hi
      have HLT : Hid (i < nn) := hlt
      have HSZ := Lib.hid hsz
      clear hlst hlb tV hi hSV hlen hlen2 hpi bx0 bx1 hN hbl hlt' hcur2
      go_upto_region 6 with fail
      go_region_held3 (fun w' => Touch lst V w' ∧ w'.cell? ⟨wr.heap.size, 0, none⟩ = some (.string xk) ∧ w'.cell? ⟨wr.heap.size, 1, none⟩ = some (.string xv)) ((first | assumption | exact kept_start HSS.out | exact kept_alloc HSS.out _ (by assumption) | exact kept_touch HSS.out ht2 (by assumption) | exact kept_grown HSS.out HRW2.out hg3 (by assumption)))
        (first
          | (go_at_call 52; (with_reducible refine (CDN.out _ _ (by assumption)).mono ?_); rintro e w1 ⟨rfl, rfl⟩)
          | (go_at_call 38; (with_reducible refine (CG.out _ ((Touch.refl _ _).drew)).mono ?_); rintro e w2 ⟨A2, c2, rfl, ho2, ht2, hr2⟩; have HT2 : Hid (Touch lst V w2) := ((Touch.refl _ _).drew).trans ht2 (fun _ hx => .inl hx); have HO2 := Lib.hid ho2; have HRW2 := Lib.hid hr2; clear ho2 hr2)
          | (go_at_call 38; (with_reducible refine (CG.out _ (((Touch.refl _ _).alloc _).drew)).mono ?_); rintro e w2 ⟨A2, c2, rfl, ho2, ht2, hr2⟩; have HT2 : Hid (Touch lst V w2) := (((Touch.refl _ _).alloc _).drew).trans ht2 (fun _ hx => .inl hx); have HO2 := Lib.hid ho2; have HRW2 := Lib.hid hr2; clear ho2 hr2)
          | (refine step_append_any (by rfl) (.tmp 24) (.tmp 26) 22 (by rfl) b 39 i0 (.agg #[.string ⟨#[]⟩, .string ⟨#[]⟩]) 2 32 Try.underlying22 hi0 hz0 hs0 hb0 rfl (by decide) (.slice A2 cur2.length c2) cur2.length (itemCells cur2) (by rfl) (HO2.out.alloc _) (.slice (some ⟨w2.heap.size, 0, none⟩) 1 1) 1 (itemCells [(xk, xv)]) (by rfl) (item_src _ _ xk xv (heap_alloc_new _ _)) (items_one _) (by unfold maxLen; omega) (by omega) (Nat.le_trans hb (Nat.le_trans hsz (Nat.le_trans (HTV.out.size) (Nat.le_trans HT2.out.size ((Touch.refl [] w2).alloc _).size)))) ?_; intro A3 c3 w3 ho3 hg3 hs3; have HT3 : Hid (Touch lst V w3) := (HT2.out.alloc _).grown hg3 HRW2.out; have HO3 := Lib.hid (item_push ho3 rfl); have HS3 := Lib.hid (row_next HRW2.out (Nat.le_trans HT2.out.size ((Touch.refl [] w2).alloc _).size) hs3); clear ho3 hs3)
          | (refine step_append_any (by rfl) (.tmp 24) (.tmp 26) 22 (by rfl) b 39 i0 (.agg #[.string ⟨#[]⟩, .string ⟨#[]⟩]) 2 32 Try.underlying22 hi0 hz0 hs0 hb0 rfl (by decide) (.slice A2 cur2.length c2) cur2.length (itemCells cur2) (by rfl) (HO2.out) (.slice (some ⟨wr.heap.size + 1, 0, none⟩) 1 1) 1 (itemCells [(xk, xv)]) (by rfl) (item_src _ _ xk xv (src_late ht2 HLB.out hzV)) (items_one _) (by unfold maxLen; omega) (by omega) (Nat.le_trans hb (Nat.le_trans hsz (Nat.le_trans (HTV.out.size) HT2.out.size))) ?_; intro A3 c3 w3 ho3 hg3 hs3; have HT3 : Hid (Touch lst V w3) := HT2.out.grown hg3 HRW2.out; have HO3 := Lib.hid (item_push ho3 rfl); have HS3 := Lib.hid (row_next HRW2.out HT2.out.size hs3); clear ho3 hs3))
      all_goals
        go_wp2_with fail
        go_roundg (gk - 1)
        case measure => omega
        case rel => exact ⟨i + 1, A3, c3, cur2 ++ [(xk, xv)], by omega, by omega, by rw [List.length_append]; rfl, by go_num, gather_on HW.out HC2.out HCS.out HX.out, HO3.out, (HT.out.trans HTV.out (by simp)).trans HT3.out (fun k hk => lst_old HLS.out HSN.out k hk), by rw [List.length_append]; exact own_on HLS.out HSN.out (Nat.le_trans HSZ.out HTV.out.size) HS3.out⟩
    · obtain rfl : i = nn := by omega
      have hlast : cur ++ chl cs i = l0 ++ weave cs its := by
        have h := HW.out
        rw [← HN.out, weave_last HCS.out, HN.out] at h
        exact h
      have hlen := congrArg List.length hlast
      simp only [List.length_append] at hlen
      have fp := (HT.out.cell (p := ⟨g, 0, none⟩) hgl (fun e => by have := HV0.out g e; omega)).trans f0
      obtain ⟨pi, hpi⟩ : ∃ pi, optPtr ps[i]? = pi := ⟨_, rfl⟩
      have CDN : Hid (∀ V', Touch [] wr V' → Calls Try.prog 52 #[.pointer (some ⟨g, 0, none⟩), .int .i64 (i : Nat)] V' fun e w => e = .returned pi ∧ V' = w) := fun V' hV => by
        rw [← hpi]
        exact down_opt V' (HSr.out.new hV) HM.out HPS.out (by rw [HN.out]; exact hi)
      have CG : Hid (∀ V', Touch [] wr V' → Calls Try.prog 38 #[pi, .slice A cur.length c] V' fun e w => ∃ A2 c2, e = .returned (.slice A2 (l0 ++ weave cs its).length c2) ∧ GPost W b (.slice A0 l0.length c0) l0 (weave cs its) (.returned (.slice A2 (l0 ++ weave cs its).length c2)) w) := fun V' t => by
        have ts := t.size
        rw [← hpi]
        refine (HGC.out i (by rw [HN.out]; exact hi) V' A c cur (HSr.out.new t) (by omega) (t.row HO.out (by simp)) (by omega)).mono ?_
        rintro e w ⟨A2, c2, rfl, z1, z2, z3⟩
        rw [hlast] at z1 z3 ⊢
        refine ⟨A2, c2, rfl, A2, c2, rfl, z1, (HT.out.trans t (by simp)).trans z2 (fun k hk => lst_old rfl HSN.out k hk), fun k e => ?_⟩
        rcases z3 k e with z | z
        · exact HSN.out k z
        · exact .inr (by omega)
      have HHI := Lib.hid hi
      clear hN hbl hlt hi hlen hlast hpi
      go_wp2_with (first
        | (go_at_call 52; ((with_reducible refine (CDN.out _ (Touch.refl _ _)).mono ?_); rintro e w5 ⟨rfl, rfl⟩))
        | (go_at_call 38; ((with_reducible refine (CG.out _ (Touch.refl _ _)).mono ?_); rintro e w5 ⟨A2, c2, rfl, hG⟩; have HG := Lib.hid hG; clear hG)))
      go_ret
      have h := HG.out
      rw [List.length_append] at h
      exact h
theorem gather_sub {m : NMap} {F : List Nat} {b : Nat} (hF : ∀ q ∈ F, q < b) : ∀ {h lo : Nat} {d : Ch}, Sub m h lo 6 d → 1 ≤ lo → ∀ (W : World) (A : Option Addr) (c : Nat) (l0 : List Item), Sto W m F → b ≤ W.heap.size → GRow W b (.slice A l0.length c) l0 → l0.length + d.l.length ≤ 1000 →
    Calls Try.prog 38 #[.pointer (some ⟨d.g, 0, none⟩), .slice A l0.length c] W (GPost W b (.slice A l0.length c) l0 d.l) := by
  intro h
  induction h with
  | zero =>
    rintro lo d ⟨its, cs, hm, h1, h6, hk, hl, -⟩ hlo W A c l0 hS hb hR hlen
    rw [kids_zero] at hk
    subst hk
    rw [hl] at hlen ⊢
    exact gather_node hm (by omega) h6 rfl (.inl rfl) (fun i _ V A' c' l' _ _ hR' _ => gather_nil V b A' c' l' hR') W A c l0 hS hb hF hR hlen
  | succ h ih =>
    rintro lo d ⟨its, cs, hm, h1, h6, hk, hl, -⟩ hlo W A c l0 hS hb hR hlen
    rw [kids_succ] at hk
    obtain ⟨hc, hd⟩ := hk
    rw [hl] at hlen ⊢
    refine gather_node hm (by omega) h6 rfl (.inr hc) (fun i hi V A' c' l' hS' hb' hR' hl' => ?_) W A c l0 hS hb hF hR hlen
    have hi2 : i < cs.length := by omega
    have e1 : (cs.map Ch.g)[i]? = some cs[i].g := by rw [List.getElem?_map, List.getElem?_eq_getElem hi2]; rfl
    have e2 : chl cs i = cs[i].l := by rw [chl, List.getElem?_eq_getElem hi2]; rfl
    rw [e1, e2]
    rw [e2] at hl'
    exact ih (hd _ (List.getElem_mem hi2)) (by omega) V A' c' l' hS' hb' hR' hl'
end Go.Proofs.Ytojiblhaiokdcaa
namespace Go.Proofs.Ytojiblhaiokdcaa
open Go.RowKit

theorem items_end {W w : World} {l : List Item} {e : Ending} (h : GPost W W.heap.size (.slice none 0 0) [] l e w) : NewItems W l e w := by
  obtain ⟨A, c, h1, h2, h3, -⟩ := h
  exact ⟨A, c, h1, h2, h3.below (Nat.le_refl _) (fun x hx => by cases hx)⟩
set_option maxRecDepth 100000 in
set_option maxHeartbeats 1000000 in
theorem shItems_any {W : World} {gs : Nat} {most : Int} {l : List Item} {F : List Nat} (h : SH W gs most l F) :
    Calls Try.prog 22 #[.pointer (some ⟨gs, 0, none⟩)] W (NewItems W l) := by
  obtain ⟨top, m, F1, hX, hS, hgs, rfl, hT, hr, hlm, hm2⟩ := h
  have CR := Lib.hid (ready_any gs W hX)
  have c0 := hX.c0
  have CG : Hid (Calls Try.prog 38 #[optPtr top, .slice none 0 0] W (GPost W W.heap.size (.slice none 0 0) [] l)) := by
    cases top with
    | none =>
      have hl : l = [] := hT
      rw [hl]
      exact gather_nil W W.heap.size none 0 [] (World.ownsRow_nil _ _ _ _)
    | some t =>
      obtain ⟨h, I, s, hnd⟩ := hT
      exact gather_sub (fun q hq => hS.lt q hq) s (Nat.le_refl _) W none 0 [] hS (Nat.le_refl _) (World.ownsRow_nil _ _ _ _) (by simp; omega)
  obtain ⟨p0, hp0⟩ : ∃ p0, optPtr top = p0 := ⟨_, rfl⟩
  rw [hp0] at c0 CG
  clear hX hS hT hr hp0 hlm hm2 hgs
  go_enter Try.func22, Try.ntmps22
  go_wp2_with (first
    | (go_at_call 33; ((with_reducible refine (CR.out).mono ?_); rintro e w1 ⟨rfl, rfl⟩))
    | (go_at_call 38; ((with_reducible refine (CG.out).mono ?_); rintro e w1 hw; have HW := Lib.hid hw; obtain ⟨A, c, rfl, -⟩ := hw)))
  go_ret
  exact items_end HW.out
end Go.Proofs.Ytojiblhaiokdcaa
