import Derived.Test.YtnjodhglbapnlaaGreatGg18
import Derived.Test.YtnjodhglbapnlaaGreatGg04
import Derived.Test.YtnjodhglbapnlaaGreatGg01
import Derived.Test.YtnjodhglbapnlaaGreatGg03
import Derived.Test.YtnjodhglbapnlaaGreatGg02
import Derived.Test.YtnjodhglbapnlaaGreatGg13
import Derived.Deep.RegionHeld3
import Derived.Deep.DrawnRows
import Derived.RecoverIn
set_option maxRecDepth 100000
set_option maxHeartbeats 16000000
namespace Go.Proofs.YtnjodhglbapnlaaGreat
open Go.RowKit
attribute [local go_sem ↓] Go.wp_at_zero Go.wp_at_succ
def chl (cs : List Ch) (i : Nat) : List Item := (cs[i]?.map Ch.l).getD []
theorem yok {cs : List Ch} {its : List Item} {i : Nat} {x : Item} (hc : cs = [] ∨ cs.length = its.length + 1) (hx : its[i]? = some x) : yab (cs.drop i) (its.drop i) = chl cs i ++ x :: yab (cs.drop (i + 1)) (its.drop (i + 1)) := by
 obtain ⟨hi, rfl⟩ := List.getElem?_eq_some_iff.1 hx
 rw [List.drop_eq_getElem_cons hi]
 rcases hc with rfl | hc
 ·simp [chl, yab]
 ·have hi2 : i < cs.length := by omega
  rw [List.drop_eq_getElem_cons hi2]
  simp [chl, yab, List.getElem?_eq_getElem hi2]
theorem ywm {cs : List Ch} {its : List Item} (hc : cs = [] ∨ cs.length = its.length + 1) : yab (cs.drop its.length) (its.drop its.length) = chl cs its.length := by
 rw [List.drop_of_length_le (Nat.le_refl _)]
 rcases hc with rfl | hc
 ·simp [chl, yab]
 ·have hi2 : its.length < cs.length := by omega
  rw [List.drop_eq_getElem_cons hi2]
  simp [chl, yab, List.getElem?_eq_getElem hi2]
abbrev yej (W : World) (b : Nat) (v : Value) (l : List Item) : Prop := W.ownsRow b 96 2 v l.length (yaa l)
def ye8 (W : World) (b : Nat) (v : Value) (l0 l : List Item) (e : Ending) (w : World) : Prop :=
 ∃ A c, e = .returned (.slice A (l0 ++ l).length c) ∧ yej w b (.slice A (l0 ++ l).length c) (l0 ++ l) ∧ Touch v.ownBlock.toList W w ∧ yax W v (.slice A (l0 ++ l).length c)
theorem yol (W : World) (b : Nat) (A : Option Addr) (c : Nat) (l0 : List Item) (h : yej W b (.slice A l0.length c) l0) :
  Calls Tryz.prog 168 #[.pointer none, .slice A l0.length c] W (ye8 W b (.slice A l0.length c) l0 []) := by
 have H := Lib.hid h
 clear h
 go_enter Tryz.func168, Tryz.ntmps168
 go_wp2
 go_ret
 exact ⟨A, c, by rw [List.append_nil]; rfl, by rw [List.append_nil]; exact H.out, Touch.refl _ _, by rw [List.append_nil]; exact fun z e => .inl e⟩
def ye9 (V : World) (lst : List Nat) (A : World → Prop) (w : World) : Prop := Touch lst V w ∧ A w
theorem ywn {V : World} {lst : List Nat} {A : World → Prop} (HSS : ∀ w', Touch lst V w' → A w') : ye9 V lst A V.drew := ⟨(Touch.refl _ _).drew, HSS _ (Touch.refl _ _).drew⟩
theorem ywo {V : World} {lst : List Nat} {A : World → Prop} (HSS : ∀ w', Touch lst V w' → A w') {w w1 : World} (t : Touch lst w w1) (h : ye9 V lst A w) : ye9 V lst A w1 := ⟨h.1.trans t (fun _ hx => .inl hx), HSS _ (h.1.trans t (fun _ hx => .inl hx))⟩
theorem kept_alloc {V : World} {lst : List Nat} {A : World → Prop} (HSS : ∀ w', Touch lst V w' → A w') {w : World} (o : Obj) (h : ye9 V lst A w) : ye9 V lst A (w.alloc o) := ⟨h.1.alloc o, HSS _ (h.1.alloc o)⟩
theorem ywp {V : World} {lst : List Nat} {A : World → Prop} (HSS : ∀ w', Touch lst V w' → A w') {w w1 : World} {row : Option Nat} (hr : ∀ k, row = some k → k ∈ lst ∨ V.heap.size ≤ k) (hg : w.grownBy w1 row) (h : ye9 V lst A w) : ye9 V lst A w1 := ⟨h.1.grown hg hr, HSS _ (h.1.grown hg hr)⟩
theorem yg0 (Wc : World) (b : Nat) (xk xv : ByteArray) (hh : Wc.heap[b]? = some (.cells #[.string xk, .string xv] 96 (0, 0))) : From Wc 2 (.slice (some ⟨b, 0, none⟩) 1 1) 1 (yaa [(xk, xv)]) := by
 refine .inr ⟨_, _, rfl, rfl, fun j' u hj => ?_⟩
 rw [Go.WideShapes.add_plain, Nat.zero_add, cell_of_row Wc b j' _ 96 (0, 0) hh]
 simpa [yaa] using hj
theorem ywq {V V' : World} {lst : List Nat} {v v2 : Value} (hlst : v.ownBlock.toList = lst) (hsz : V.heap.size ≤ V'.heap.size) (hs : yax V' v v2) : ∀ k, v2.ownBlock = some k → k ∈ lst ∨ V.heap.size ≤ k := fun k e => by
 rcases hs k e with z | z
 ·exact .inl (by rw [← hlst, z]; simp)
 ·exact .inr (by omega)
theorem ywr {V w2 : World} {lst : List Nat} {b n : Nat} {o : Obj} (t : Touch lst (V.alloc o).drew w2) (hl : ∀ k ∈ lst, b ≤ k ∧ k < n) (hz : V.heap.size = n + 1) : w2.heap[n + 1]? = some o := by
 rw [← hz]
 exact (t.block V.heap.size (by show V.heap.size < (V.alloc o).heap.size; simp) (fun e => by have := (hl _ e).2; omega)).trans (heap_alloc_new V o)
theorem yom {w : World} {b : Nat} {A : Option Addr} {c n : Nat} {l : List Item} {x : Item} (h : w.ownsRow b 96 2 (.slice A (n + 1) c) (n + 1) (yaa l ++ yaa [x])) (hn : l.length = n) : yej w b (.slice A (l ++ [x]).length c) (l ++ [x]) := by
 subst hn
 have e : (l ++ [x]).length = l.length + 1 := by simp
 show World.ownsRow _ _ _ _ _ _ _
 rw [e]
 rw [show yaa (l ++ [x]) = yaa l ++ yaa [x] by simp [yaa]]
 exact h
theorem yon {V V' : World} {lst : List Nat} {v v2 : Value} (hr : ∀ k, v.ownBlock = some k → k ∈ lst ∨ V.heap.size ≤ k) (hsz : V.heap.size ≤ V'.heap.size) (hs : yax V' v v2) : ∀ k, v2.ownBlock = some k → k ∈ lst ∨ V.heap.size ≤ k := fun k e => by
 rcases hs k e with z | z
 ·exact hr k z
 ·exact .inr (by omega)
theorem yoo {W : World} {v0 v : Value} {lst : List Nat} (hlst : v.ownBlock.toList = lst) (hs : yax W v0 v) : ∀ k ∈ lst, k ∈ v0.ownBlock.toList ∨ W.heap.size ≤ k := fun k hk => by
 rw [← hlst] at hk
 have e : v.ownBlock = some k := by simpa using hk
 rcases hs k e with z | z
 ·exact .inl (by rw [z]; simp)
 ·exact .inr z
theorem yws {W V : World} {v0 v v3 : Value} {lst : List Nat} (hlst : v.ownBlock.toList = lst) (hs : yax W v0 v) (hsz : W.heap.size ≤ V.heap.size) (h3 : ∀ k, v3.ownBlock = some k → k ∈ lst ∨ V.heap.size ≤ k) : yax W v0 v3 := fun k e => by
 rcases h3 k e with z | z
 ·rw [← hlst] at z
  exact hs k (by simpa using z)
 ·exact .inr (by omega)
theorem ywt {cs : List Ch} {its cur cur2 all : List Item} {i : Nat} {x : Item} (hw : cur ++ yab (cs.drop i) (its.drop i) = all) (hc2 : cur ++ chl cs i = cur2) (hc : cs = [] ∨ cs.length = its.length + 1) (hx : its[i]? = some x) : (cur2 ++ [x]) ++ yab (cs.drop (i + 1)) (its.drop (i + 1)) = all := by
 rw [yok hc hx] at hw
 rw [← hw, ← hc2]
 simp
theorem yop (W : World) {m : NMap} {F : List Nat} (hS : Sto W m F) {g i : Nat} {its : List Item} {ps : List Nat} (hm : m g = some ⟨its, ps⟩) (hp : ps = [] ∨ (ps.length = its.length + 1 ∧ its.length ≤ 6)) (hi : i ≤ its.length) :
  Calls Tryz.prog 192 #[.pointer (some ⟨g, 0, none⟩), .int .i64 (i : Nat)] W fun e w => e = .returned (ybq ps[i]?) ∧ W = w := by
 rcases hp with rfl | ⟨h1, h2⟩
 ·exact (yei W hS hm (by simp)).1 rfl
 ·have h3 : i < ps.length := by omega
  rw [List.getElem?_eq_getElem h3]
  exact (yei W hS hm (by omega)).2 _ (List.getElem?_eq_getElem h3)
theorem yoq {m : NMap} {F : List Nat} {b g : Nat} {its : List Item} {ps : List Nat} {cs : List Ch} (hm : m g = some ⟨its, ps⟩) (hn1 : 1 ≤ its.length) (hn : its.length ≤ 6) (hps : cs.map Ch.g = ps) (hcs : cs = [] ∨ cs.length = its.length + 1)
  (GC : ∀ i, i ≤ its.length → ∀ (V : World) (A : Option Addr) (c : Nat) (l0 : List Item), Sto V m F → b ≤ V.heap.size → yej V b (.slice A l0.length c) l0 → l0.length + (chl cs i).length ≤ 1000 → Calls Tryz.prog 168 #[ybq ps[i]?, .slice A l0.length c] V (ye8 V b (.slice A l0.length c) l0 (chl cs i)))
  (W : World) (A0 : Option Addr) (c0 : Nat) (l0 : List Item) (hS : Sto W m F) (hb : b ≤ W.heap.size) (hF : ∀ q ∈ F, q < b) (hR : yej W b (.slice A0 l0.length c0) l0) (hl : l0.length + (yab cs its).length ≤ 1000) :
  Calls Tryz.prog 168 #[.pointer (some ⟨g, 0, none⟩), .slice A0 l0.length c0] W (ye8 W b (.slice A0 l0.length c0) l0 (yab cs its)) := by
 obtain ⟨i0, hi0, hz0, hs0, hb0⟩ := ydk
 obtain ⟨v, u, hN, hbl, -⟩ := hS.at hm
 have hN : NdX W g its ps v u := hN
 obtain ⟨q, cq, rfl, hq1, hq2⟩ := ybs hN.r0 (by omega)
 have hqb : q < b := hF q (hbl q (ybb.2 (.inl rfl)))
 have f0 := hN.c0
 have hgl := hN.lt
 have hgb : g < b := hF g (hS.mem hm)
 have hql : q < W.heap.size := (hN.r0.lt q rfl).2
 have HROW : Hid (Row W (.slice (some ⟨q, 0, none⟩) its.length cq) its) := hN.r0
 have HGC := Lib.hid GC
 have HS := Lib.hid hS
 have HF := Lib.hid hF
 have HR := Lib.hid hR
 have HPS : Hid (ps = [] ∨ (ps.length = its.length + 1 ∧ its.length ≤ 6)) := by
  rw [← hps, List.length_map]
  rcases hcs with z | z
  ·exact .inl (by rw [z]; rfl)
  ·exact .inr ⟨z, hn⟩
 have HM := Lib.hid hm
 have HCS := Lib.hid hcs
 obtain ⟨nn, hnn⟩ : ∃ nn, its.length = nn := ⟨_, rfl⟩
 have HN := Lib.hid hnn
 rw [hnn] at f0 hn hn1
 clear GC hS hF hR hm hcs hN hq1 hq2 hnn hps
 go_enter Tryz.func168, Tryz.ntmps168
 go_wp2_with fail
 have HV0 : Hid (∀ k, k ∈ (Value.slice A0 l0.length c0).ownBlock.toList → b ≤ k) := fun k hk => (HR.out.lt k (by simpa using hk)).1
 go_loopg [1, 15] (nn + 1) (fun gi s1 s15 wy => ∃ i A c cur, i + gi = nn + 1 ∧ i ≤ nn ∧ s1 = .slice A cur.length c ∧ s15 = .int .i64 (i : Nat) ∧ Hid (cur ++ yab (cs.drop i) (its.drop i) = l0 ++ yab cs its) ∧ Hid (yej wy b (.slice A cur.length c) cur) ∧ Hid (Touch (Value.slice A0 l0.length c0).ownBlock.toList W wy) ∧ Hid (yax W (.slice A0 l0.length c0) (.slice A cur.length c)))
 case atStart => exact ⟨0, A0, c0, l0, by omega, by omega, rfl, rfl, rfl, HR.out, Touch.refl _ _, fun z e => .inl e⟩
 case round =>
  obtain ⟨i, A, c, cur, hig, hi, rfl, rfl, HW, HO, HT, HSN⟩ := hrel
  have hsz := HT.out.size
  have hFo : ∀ z ∈ F, z ∉ (Value.slice A0 l0.length c0).ownBlock.toList := fun z hz e => by have := HF.out z hz; have := HV0.out z e; omega
  have HSr : Hid (Sto wr m F) := HS.out.touch HT.out hFo
  by_cases hlt : i < nn
  ·have hlt' : i < its.length := by rw [HN.out]; exact hlt
   have HX : Hid (its[i]? = some its[i]) := List.getElem?_eq_getElem hlt'
   have ck := (HT.out.cell (p := ⟨q, i * 2, none⟩) hql (fun e => by have := HV0.out q e; omega)).trans ((HROW.out.cellAt (i * 2) (by omega)).trans (ycc its i hlt'))
   have cv := (HT.out.cell (p := ⟨q, i * 2 + 1, none⟩) hql (fun e => by have := HV0.out q e; omega)).trans ((HROW.out.cellAt (i * 2 + 1) (by omega)).trans (yci its i hlt'))
   have i1 : (i : Int) < (nn : Int) := by omega
   have hqr : q < wr.heap.size := by omega
   generalize its[i] = x at *
   obtain ⟨xk, xv⟩ := x
   have hlen := congrArg List.length HW.out
   rw [yok HCS.out HX.out] at hlen
   simp only [List.length_append, List.length_cons] at hlen
   have hlen2 : cur.length + (chl cs i).length + 1 ≤ 1000 := by omega
   obtain ⟨cur2, hcur2⟩ : ∃ cur2, cur ++ chl cs i = cur2 := ⟨_, rfl⟩
   have hlen3 : cur2.length + 1 ≤ 1000 := by rw [← hcur2, List.length_append]; exact hlen2
   obtain ⟨lst, hlst⟩ : ∃ lst, (Value.slice A cur.length c).ownBlock.toList = lst := ⟨_, rfl⟩
   obtain ⟨V, hV⟩ : ∃ V, wr.alloc (.cells #[.string xk, .string xv] 96) = V := ⟨_, rfl⟩
   have tV : Touch [] wr V := by rw [← hV]; exact (Touch.refl _ _).alloc _
   have hzV : V.heap.size = wr.heap.size + 1 := by rw [← hV]; simp
   have hlb : ∀ k ∈ lst, b ≤ k ∧ k < wr.heap.size := fun k hk => HO.out.lt k (by rw [← hlst] at hk; simpa using hk)
   have bx0 : V.cell? ⟨wr.heap.size, 0, none⟩ = some (.string xk) := by rw [← hV]; exact (Box2.fresh _ _ _ _).c0
   have bx1 : V.cell? ⟨wr.heap.size, 1, none⟩ = some (.string xv) := by rw [← hV]; exact (Box2.fresh _ _ _ _).c1
   have HSS : Hid (∀ w', Touch lst V w' → w'.cell? ⟨wr.heap.size, 0, none⟩ = some (.string xk) ∧ w'.cell? ⟨wr.heap.size, 1, none⟩ = some (.string xv)) := fun w' t =>
    have hn : wr.heap.size ∉ lst := fun e => Nat.lt_irrefl _ (hlb _ e).2
    ⟨(t.cell (p := ⟨wr.heap.size, 0, none⟩) (by show wr.heap.size < V.heap.size; omega) hn).trans bx0, (t.cell (p := ⟨wr.heap.size, 1, none⟩) (by show wr.heap.size < V.heap.size; omega) hn).trans bx1⟩
   have hSV : ∀ V', Touch lst V V' → Sto V' m F := fun V' t => (HSr.out.new tV).touch t (fun z hz e => by have := HF.out z hz; have := (hlb z e).1; omega)
   obtain ⟨pi, hpi⟩ : ∃ pi, ybq ps[i]? = pi := ⟨_, rfl⟩
   have CDN : Hid (∀ (P : Prop) (V' : World), Touch lst V V' ∧ P → Calls Tryz.prog 192 #[.pointer (some ⟨g, 0, none⟩), .int .i64 (i : Nat)] V' fun e w => e = .returned pi ∧ V' = w) := fun P V' hP => by
    rw [← hpi]
    exact yop V' (hSV V' hP.1) HM.out HPS.out (by rw [HN.out]; exact hi)
   have CG : Hid (∀ V', Touch [] V V' → Calls Tryz.prog 168 #[pi, .slice A cur.length c] V' fun e w => ∃ A2 c2, e = .returned (.slice A2 cur2.length c2) ∧ yej w b (.slice A2 cur2.length c2) cur2 ∧ Touch lst V' w ∧ ∀ k, (Value.slice A2 cur2.length c2).ownBlock = some k → k ∈ lst ∨ V.heap.size ≤ k) := fun V' t => by
    have ts := t.size
    rw [← hpi]
    refine (HGC.out i (by rw [HN.out]; exact hi) V' A c cur ((HSr.out.new tV).new t) (by omega) (t.row (tV.row HO.out (by simp)) (by simp)) (by omega)).mono ?_
    rintro e w ⟨A2, c2, rfl, z1, z2, z3⟩
    rw [hcur2] at z1 z3 ⊢
    rw [hlst] at z2
    exact ⟨A2, c2, rfl, z1, z2, ywq hlst ts z3⟩
   have HC2 := Lib.hid hcur2
   have HLS := Lib.hid hlst
   have HLB := Lib.hid hlb
   have HTV := Lib.hid tV
   have HHI := Lib.hid hi
   have HLT : Hid (i < nn) := hlt
   have HSZ := Lib.hid hsz
   clear hlst hlb tV hi hSV hlen hlen2 hpi bx0 bx1 hN hbl hlt' hcur2
   go_upto_region 6 with fail
   go_region_held3 (fun w' => Touch lst V w' ∧ w'.cell? ⟨wr.heap.size, 0, none⟩ = some (.string xk) ∧ w'.cell? ⟨wr.heap.size, 1, none⟩ = some (.string xv)) ((first | assumption | exact ywn HSS.out | exact kept_alloc HSS.out _ (by assumption) | exact ywo HSS.out ht2 (by assumption) | exact ywp HSS.out HRW2.out hg3 (by assumption)))
    (first
     | (go_at_call 192; (with_reducible refine (CDN.out _ _ (by assumption)).mono ?_); rintro e w1 ⟨rfl, rfl⟩)
     | (go_at_call 168; (with_reducible refine (CG.out _ ((Touch.refl _ _).drew)).mono ?_); rintro e w2 ⟨A2, c2, rfl, ho2, ht2, hr2⟩; have HT2 : Hid (Touch lst V w2) := ((Touch.refl _ _).drew).trans ht2 (fun _ hx => .inl hx); have HO2 := Lib.hid ho2; have HRW2 := Lib.hid hr2; clear ho2 hr2)
     | (go_at_call 168; (with_reducible refine (CG.out _ (((Touch.refl _ _).alloc _).drew)).mono ?_); rintro e w2 ⟨A2, c2, rfl, ho2, ht2, hr2⟩; have HT2 : Hid (Touch lst V w2) := (((Touch.refl _ _).alloc _).drew).trans ht2 (fun _ hx => .inl hx); have HO2 := Lib.hid ho2; have HRW2 := Lib.hid hr2; clear ho2 hr2)
     | (refine yc3 (by rfl) (.tmp 24) (.tmp 26) 22 (by rfl) b 96 i0 (.agg #[.string ⟨#[]⟩, .string ⟨#[]⟩]) 2 32 Tryz.underlying22 hi0 hz0 hs0 hb0 rfl (by decide) (.slice A2 cur2.length c2) cur2.length (yaa cur2) (by rfl) (HO2.out.alloc _) (.slice (some ⟨w2.heap.size, 0, none⟩) 1 1) 1 (yaa [(xk, xv)]) (by rfl) (yg0 _ _ xk xv (heap_alloc_new _ _)) (ybc _) (by unfold maxLen; omega) (by omega) (Nat.le_trans hb (Nat.le_trans hsz (Nat.le_trans (HTV.out.size) (Nat.le_trans HT2.out.size ((Touch.refl [] w2).alloc _).size)))) ?_; intro A3 c3 w3 ho3 hg3 hs3; have HT3 : Hid (Touch lst V w3) := (HT2.out.alloc _).grown hg3 HRW2.out; have HO3 := Lib.hid (yom ho3 rfl); have HS3 := Lib.hid (yon HRW2.out (Nat.le_trans HT2.out.size ((Touch.refl [] w2).alloc _).size) hs3); clear ho3 hs3)
     | (refine yc3 (by rfl) (.tmp 24) (.tmp 26) 22 (by rfl) b 96 i0 (.agg #[.string ⟨#[]⟩, .string ⟨#[]⟩]) 2 32 Tryz.underlying22 hi0 hz0 hs0 hb0 rfl (by decide) (.slice A2 cur2.length c2) cur2.length (yaa cur2) (by rfl) (HO2.out) (.slice (some ⟨wr.heap.size + 1, 0, none⟩) 1 1) 1 (yaa [(xk, xv)]) (by rfl) (yg0 _ _ xk xv (ywr ht2 HLB.out hzV)) (ybc _) (by unfold maxLen; omega) (by omega) (Nat.le_trans hb (Nat.le_trans hsz (Nat.le_trans (HTV.out.size) HT2.out.size))) ?_; intro A3 c3 w3 ho3 hg3 hs3; have HT3 : Hid (Touch lst V w3) := HT2.out.grown hg3 HRW2.out; have HO3 := Lib.hid (yom ho3 rfl); have HS3 := Lib.hid (yon HRW2.out HT2.out.size hs3); clear ho3 hs3))
   all_goals
    go_wp2_with fail
    go_roundg (gk - 1)
    case measure => omega
    case rel => exact ⟨i + 1, A3, c3, cur2 ++ [(xk, xv)], by omega, by omega, by rw [List.length_append]; rfl, by go_num, ywt HW.out HC2.out HCS.out HX.out, HO3.out, (HT.out.trans HTV.out (by simp)).trans HT3.out (fun k hk => yoo HLS.out HSN.out k hk), by rw [List.length_append]; exact yws HLS.out HSN.out (Nat.le_trans HSZ.out HTV.out.size) HS3.out⟩
  ·obtain rfl : i = nn := by omega
   have hlast : cur ++ chl cs i = l0 ++ yab cs its := by
    have h := HW.out
    rw [← HN.out, ywm HCS.out, HN.out] at h
    exact h
   have hlen := congrArg List.length hlast
   simp only [List.length_append] at hlen
   have fp := (HT.out.cell (p := ⟨g, 0, none⟩) hgl (fun e => by have := HV0.out g e; omega)).trans f0
   obtain ⟨pi, hpi⟩ : ∃ pi, ybq ps[i]? = pi := ⟨_, rfl⟩
   have CDN : Hid (∀ V', Touch [] wr V' → Calls Tryz.prog 192 #[.pointer (some ⟨g, 0, none⟩), .int .i64 (i : Nat)] V' fun e w => e = .returned pi ∧ V' = w) := fun V' hV => by
    rw [← hpi]
    exact yop V' (HSr.out.new hV) HM.out HPS.out (by rw [HN.out]; exact hi)
   have CG : Hid (∀ V', Touch [] wr V' → Calls Tryz.prog 168 #[pi, .slice A cur.length c] V' fun e w => ∃ A2 c2, e = .returned (.slice A2 (l0 ++ yab cs its).length c2) ∧ ye8 W b (.slice A0 l0.length c0) l0 (yab cs its) (.returned (.slice A2 (l0 ++ yab cs its).length c2)) w) := fun V' t => by
    have ts := t.size
    rw [← hpi]
    refine (HGC.out i (by rw [HN.out]; exact hi) V' A c cur (HSr.out.new t) (by omega) (t.row HO.out (by simp)) (by omega)).mono ?_
    rintro e w ⟨A2, c2, rfl, z1, z2, z3⟩
    rw [hlast] at z1 z3 ⊢
    refine ⟨A2, c2, rfl, A2, c2, rfl, z1, (HT.out.trans t (by simp)).trans z2 (fun k hk => yoo rfl HSN.out k hk), fun k e => ?_⟩
    rcases z3 k e with z | z
    ·exact HSN.out k z
    ·exact .inr (by omega)
   have HHI := Lib.hid hi
   clear hN hbl hlt hi hlen hlast hpi
   go_wp2_with (first
    | (go_at_call 192; ((with_reducible refine (CDN.out _ (Touch.refl _ _)).mono ?_); rintro e w5 ⟨rfl, rfl⟩))
    | (go_at_call 168; ((with_reducible refine (CG.out _ (Touch.refl _ _)).mono ?_); rintro e w5 ⟨A2, c2, rfl, hG⟩; have HG := Lib.hid hG; clear hG)))
   go_ret
   have h := HG.out
   rw [List.length_append] at h
   exact h
theorem ywu {m : NMap} {F : List Nat} {b : Nat} (hF : ∀ q ∈ F, q < b) : ∀ {h lo : Nat} {d : Ch}, Sub m h lo 6 d → 1 ≤ lo → ∀ (W : World) (A : Option Addr) (c : Nat) (l0 : List Item), Sto W m F → b ≤ W.heap.size → yej W b (.slice A l0.length c) l0 → l0.length + d.l.length ≤ 1000 →
  Calls Tryz.prog 168 #[.pointer (some ⟨d.g, 0, none⟩), .slice A l0.length c] W (ye8 W b (.slice A l0.length c) l0 d.l) := by
 intro h
 induction h with
 | zero =>
  rintro lo d ⟨its, cs, hm, h1, h6, hk, hl, -⟩ hlo W A c l0 hS hb hR hlen
  rw [ybd] at hk
  subst hk
  rw [hl] at hlen ⊢
  exact yoq hm (by omega) h6 rfl (.inl rfl) (fun i _ V A' c' l' _ _ hR' _ => yol V b A' c' l' hR') W A c l0 hS hb hF hR hlen
 | succ h ih =>
  rintro lo d ⟨its, cs, hm, h1, h6, hk, hl, -⟩ hlo W A c l0 hS hb hR hlen
  rw [ybi] at hk
  obtain ⟨hc, hd⟩ := hk
  rw [hl] at hlen ⊢
  refine yoq hm (by omega) h6 rfl (.inr hc) (fun i hi V A' c' l' hS' hb' hR' hl' => ?_) W A c l0 hS hb hF hR hlen
  have hi2 : i < cs.length := by omega
  have e1 : (cs.map Ch.g)[i]? = some cs[i].g := by rw [List.getElem?_map, List.getElem?_eq_getElem hi2]; rfl
  have e2 : chl cs i = cs[i].l := by rw [chl, List.getElem?_eq_getElem hi2]; rfl
  rw [e1, e2]
  rw [e2] at hl'
  exact ih (hd _ (List.getElem_mem hi2)) (by omega) V A' c' l' hS' hb' hR' hl'
end Go.Proofs.YtnjodhglbapnlaaGreat
namespace Go.Proofs.YtnjodhglbapnlaaGreat
open Go.RowKit
theorem ywv {W w : World} {l : List Item} {e : Ending} (h : ye8 W W.heap.size (.slice none 0 0) [] l e w) : yep W l e w := by
 obtain ⟨A, c, h1, h2, h3, -⟩ := h
 exact ⟨A, c, h1, h2, h3.below (Nat.le_refl _) (fun x hx => by cases hx)⟩
theorem yww {W : World} {gs : Nat} {most : Int} {l : List Item} {F : List Nat} (h : SH W gs most l F) :
  Calls Tryz.prog 107 #[.pointer (some ⟨gs, 0, none⟩)] W (yep W l) := by
 obtain ⟨top, m, F1, hX, hS, hgs, rfl, hT, hr, hlm, hm2⟩ := h
 have CR := Lib.hid (ygz gs W hX)
 have c0 := hX.c0
 have CG : Hid (Calls Tryz.prog 168 #[ybq top, .slice none 0 0] W (ye8 W W.heap.size (.slice none 0 0) [] l)) := by
  cases top with
  | none =>
   have hl : l = [] := hT
   rw [hl]
   exact yol W W.heap.size none 0 [] (World.ownsRow_nil _ _ _ _)
  | some t =>
   obtain ⟨h, I, s, hnd⟩ := hT
   exact ywu (fun q hq => hS.lt q hq) s (Nat.le_refl _) W none 0 [] hS (Nat.le_refl _) (World.ownsRow_nil _ _ _ _) (by simp; omega)
 obtain ⟨p0, hp0⟩ : ∃ p0, ybq top = p0 := ⟨_, rfl⟩
 rw [hp0] at c0 CG
 clear hX hS hT hr hp0 hlm hm2 hgs
 go_enter Tryz.func107, Tryz.ntmps107
 go_wp2_with (first
  | (go_at_call 167; ((with_reducible refine (CR.out).mono ?_); rintro e w1 ⟨rfl, rfl⟩))
  | (go_at_call 168; ((with_reducible refine (CG.out).mono ?_); rintro e w1 hw; have HW := Lib.hid hw; obtain ⟨A, c, rfl, -⟩ := hw)))
 go_ret
 exact ywv HW.out
attribute [local go_sem] Oper.semAt_some
structure Src (W : World) (p : Option Addr) (l : List Item) : Prop where
 rising : yah l
 len : l.length ≤ 200
 items : ∀ w, Below W.heap.size W w → Calls Tryz.prog 107 #[.pointer p] w (yep w l)
 copy : ∀ w, Below W.heap.size W w → Calls Tryz.prog 164 #[.pointer p] w (ynl w l)
end Go.Proofs.YtnjodhglbapnlaaGreat
namespace Go.Proofs.YtnjodhglbapnlaaGreat
open Go.RowKit
attribute [local go_sem] Oper.semAt_some
theorem ykn (l : List Item) (f t : Nat) : (arcL l f t).length ≤ 2 * l.length := by
 unfold arcL
 rw [List.length_append]
 have h1 := List.length_filter_le (inA f t false) l
 have h2 := List.length_filter_le (inA f t true) l
 omega
def ywx (w : World) (p : Option Addr) (f t : Nat) (e : Ending) (w' : World) : Prop :=
 ∃ a0 a1 : Nat, e = .returned (.func (.func 163) #[] #[.pointer (some ⟨a0, 0, none⟩), .pointer (some ⟨a1, 0, none⟩)]) ∧
  w'.cell? ⟨a0, 0, none⟩ = some (.pointer p) ∧ w'.cell? ⟨a1, 0, none⟩ = some (.int .u64 (f : Nat)) ∧ w'.cell? ⟨a1, 1, none⟩ = some (.int .u64 (t : Nat)) ∧ Below w.heap.size w w'
theorem yor (p : Option Addr) (f t : Nat) (w : World) : Calls Tryz.prog 106 #[.pointer p, .agg #[.int .u64 (f : Nat), .int .u64 (t : Nat)]] w (ywx w p f t) := by
 refine (yu3 p f t w).mono ?_
 rintro e w' ⟨rfl, rfl⟩
 exact ⟨_, _, rfl, by go_simp, by go_simp, by go_simp, ((Below.refl _ w).alloc (Nat.le_refl _) _).alloc (by simp) _⟩
end Go.Proofs.YtnjodhglbapnlaaGreat
namespace Go.Proofs.YtnjodhglbapnlaaGreat
open Go.RowKit
attribute [local go_sem] Oper.semAt_some
end Go.Proofs.YtnjodhglbapnlaaGreat
namespace Go.Proofs.YtnjodhglbapnlaaGreat
open Go.RowKit
attribute [local go_sem] Oper.semAt_some
end Go.Proofs.YtnjodhglbapnlaaGreat
namespace Go.Proofs.YtnjodhglbapnlaaGreat
open Go.RowKit
attribute [local go_sem] Oper.semAt_some
theorem yko {F : Fence} {d : Nat} {P : Program} {w : World} {ops : Array Oper} {rest : List Oper} {o : Oper} {a : Act} {Q : Exit → Act → World → Prop} (hg : o.guard = none) (s x : Operand) (t : TypeId)
  (ho : o.op = .call { callee := .builtin .append, args := #[s, x], argTypes := #[t, t] })
  (base : Nat) (e : TypeId) (i : TypeInfo) (z : Value) (size bytes : Nat) (ht : P.underlying t = some (.slice e)) (hi : P.info? e = some i) (hz : i.zero = some z)
  (hsize : i.size = size) (hby : i.bytes = bytes) (hzs : z.cells.size = size) (hsz : 0 < size)
  (v : Value) (n : Nat) (xs : List Value) (hs : a.eval s = v) (hown : w.ownsRow base e size v n xs)
  (y : Value) (m : Nat) (news : List Value) (hx : a.eval x = y) (hsrc : From w size y m news) (h1 : ∀ u ∈ news, u.oneCell' = true)
  (h63 : n + m ≤ maxLen) (hbytes : (n + m) * bytes ≤ 140737488355328) (hbase : base ≤ w.heap.size)
  (h : ∀ A c w', w'.ownsRow base e size (.slice A (n + m) c) (n + m) (xs ++ news) → w.grownBy w' v.ownBlock → yax w v (.slice A (n + m) c) → wpListIn F d P ops Q rest (a.put o.dst (.slice A (n + m) c)) w') : wpListIn F d P ops Q (o :: rest) a w := by
 refine wpListIn_plain hg fun K hK => ?_
 obtain ⟨v', w', hr, h2, h3, h4⟩ := yhx (P := P) w base t o.type e i z size bytes ht hi hz hsize hby hzs hsz v n xs hown y m news hsrc h1 h63 hbytes hbase
 obtain ⟨A, c, rfl⟩ := yav h2
 refine ⟨by simp [Oper.about, ho, resolve, Target.leads, Sem.run_pure], ?_⟩
 rw [Oper.semAt_plain F _ _ (by rw [ho]; intro c hc; cases hc)]
 simp only [execOp, ho, resolve, invoke, builtin, Sem.run_bind, Sem.run_pure, Result.andThen_ok, List.map_toArray, List.map_cons, List.map_nil, hs, hx, hr]
 exact hK _ _ (h A c w' h2 h3 h4)
end Go.Proofs.YtnjodhglbapnlaaGreat
