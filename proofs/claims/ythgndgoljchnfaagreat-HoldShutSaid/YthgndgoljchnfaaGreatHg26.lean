/-
  The walk of clone: another part alike, in new memory.
  The walk of Copy; the code's own shelf keeps ShelfLaws.
  The code's shelf and the document's, side by side, both of the call's own (OSR); a list of items that came in (ItemsAt); what a shelf is filled with (fillL).
-/
import Derived.Test.YthgndgoljchnfaaGreatHg25
import Derived.Test.YthgndgoljchnfaaGreatHg22
import Derived.Test.YthgndgoljchnfaaGreatHg13
import Derived.Test.YthgndgoljchnfaaGreatHg15
import Derived.Test.YthgndgoljchnfaaGreatHg12
namespace Go.Proofs.YthgndgoljchnfaaGreat
open Go.RowKit
attribute [local go_sem ↓] Go.wp_at_zero Go.wp_at_succ

/-- what clone answers: a part alike, all of it new -/
def ClonePost (W : World) (h lo : Nat) (l : List Item) (e : Ending) (w : World) : Prop :=
  ∃ (g : Nat) (m : NMap) (F I : List Nat), e = .returned (.pointer (some ⟨g, 0, none⟩)) ∧ Sto w m F ∧ (∀ q ∈ F, W.heap.size ≤ q) ∧ Below W.heap.size W w ∧ Sub m h lo 6 ⟨g, l, I⟩ ∧ I.Nodup
/-- on the way: node G made anew, and so many of the parts below it, of height h -/
def CSt (W : World) (h G : Nat) (its : List Item) (ls : List (List Item)) (wx : World) : Prop :=
  ∃ (m : NMap) (F : List Nat) (cs : List Ch), Sto wx m F ∧ (∀ q ∈ F, W.heap.size ≤ q) ∧ Below W.heap.size W wx ∧ m G = some ⟨its, cs.map Ch.g⟩ ∧ cs.map Ch.l = ls ∧ (∀ d ∈ cs, Sub m h 3 6 d) ∧ (G :: cs.flatMap Ch.I).Nodup
theorem cst_start {W w : World} {h G : Nat} {its : List Item} {v u : Value} (hn : NdX w G its [] v u) (hb : Below W.heap.size W w) (hG : W.heap.size ≤ G) (hv : ∀ q ∈ blocks v u, W.heap.size ≤ q) : CSt W h G its [] w := by
  refine ⟨_, _, [], Sto.single hn, fun q hq => ?_, hb, upd_same _ _ _, rfl, ⟨fun d hd => (by cases hd), (by simp)⟩⟩
  rcases List.mem_cons.1 hq with e | e
  · omega
  · exact hv q e
theorem weave_congr : ∀ {cs ds : List Ch} {its : List Item}, cs.map Ch.l = ds.map Ch.l → weave cs its = weave ds its
  | [], [], _, _ => rfl
  | [], _ :: _, _, h => by cases h
  | _ :: _, [], _, h => by cases h
  | c :: cs, d :: ds, its, h => by
    simp only [List.map_cons, List.cons.injEq] at h
    cases its with
    | nil => exact h.1
    | cons x its =>
      show c.l ++ x :: weave cs its = d.l ++ x :: weave ds its
      rw [h.1, weave_congr h.2]
theorem CSt.below {W wx wy : World} {h G : Nat} {its : List Item} {ls : List (List Item)} (H : CSt W h G its ls wx) (hb : Below wx.heap.size wx wy) : CSt W h G its ls wy := by
  obtain ⟨m, F, cs, hS, hF, hB, r⟩ := H
  exact ⟨m, F, cs, hS.below hb, hF, hB.trans (hb.mono hB.size), r⟩
/-- one part more -/
theorem cst_step {W wx : World} {h G : Nat} {its : List Item} {ls : List (List Item)} (H : CSt W h G its ls wx) :
    ∃ v u ps, NdX wx G its ps v u ∧ ps.length = ls.length ∧ ∀ w1 l gc, ClonePost wx h 3 l (.returned (.pointer (some ⟨gc, 0, none⟩))) w1 → ∀ w u', NdX w G its (ps ++ [gc]) v u' → Touch (G :: blocks v u) w1 w → (∀ q, q ∈ blocks v u' → q ∈ blocks v u ∨ w1.heap.size ≤ q) → CSt W h G its (ls ++ [l]) w := by
  obtain ⟨m, F, cs, hS, hF, hB, hm, hl, hsub, hnd⟩ := H
  obtain ⟨v, u, hN0, -, -⟩ := hS.at hm
  have hN0 : NdX wx G its (cs.map Ch.g) v u := hN0
  refine ⟨v, u, cs.map Ch.g, hN0, by rw [← hl]; simp, fun w1 l gc hc w u' hn ht hb => ?_⟩
  obtain ⟨g', mc, Fc, Ic, he, hSc, hFc, hBc, hsc, hndc⟩ := hc
  obtain rfl : gc = g' := congrArg Addr.block (Option.some.inj (Value.pointer.inj (Ending.returned.inj he)))
  have hd : ∀ q, q ∈ F → q ∉ Fc := fun q h1 h2 => by have := hS.lt q h1; have := hFc q h2; omega
  have hSJ := (hS.below hBc).join hSc hd
  have hmJ : joinM m mc G = some ⟨its, cs.map Ch.g⟩ := joinM_left hm
  obtain ⟨v2, u2, hN, hbl, hT⟩ := hSJ.at hmJ
  have hN : NdX w1 G its (cs.map Ch.g) v2 u2 := hN
  obtain ⟨rfl, rfl⟩ := (hN0.new (Touch.ofBelow hBc)).eq hN
  obtain ⟨a, b⟩ := hT w its (cs.map Ch.g ++ [gc]) v u' hn ht hb
  have hFJ : ∀ q ∈ F ++ Fc, W.heap.size ≤ q := fun q hq => by
    rcases List.mem_append.1 hq with e | e
    · exact hF q e
    · exact Nat.le_trans hB.size (hFc q e)
  have hBw1 : Below W.heap.size W w1 := hB.trans (hBc.mono hB.size)
  have hsz : W.heap.size ≤ w1.heap.size := hBw1.size
  have hGF : G ∈ F := hS.mem hm
  have nd1 := List.nodup_cons.1 hnd
  have domF : ∀ d ∈ cs, ∀ x ∈ d.I, x ∈ F := fun d hd x hx => by
    obtain ⟨nd, e⟩ := (hsub d hd).dom x hx
    exact hS.mem e
  have domC : ∀ x ∈ Ic, x ∈ Fc := fun x hx => by
    obtain ⟨nd, e⟩ := hsc.dom x hx
    exact hSc.mem e
  refine ⟨_, _, cs ++ [⟨gc, l, Ic⟩], a, fun q hq => ?_, hBw1.trans (((ht.below (B := W.heap.size) hsz (fun x hx => ?_))).mono (Nat.le_refl _)), by rw [upd_same]; simp, by rw [List.map_append, hl]; rfl, fun d hd2 => ?_, ?_⟩
  · rcases b.2 q hq with e | e
    · exact hFJ q e
    · omega
  · rcases List.mem_cons.1 hx with e | e
    · rw [e]; exact hF G hGF
    · exact hFJ x (hbl x e)
  · rcases List.mem_append.1 hd2 with e | e
    · refine (hsub d e).congr (fun x hx => ?_)
      have hxG : x ≠ G := fun e2 => nd1.1 (List.mem_flatMap.2 ⟨d, e, e2 ▸ hx⟩)
      obtain ⟨nd, e3⟩ := (hsub d e).dom x hx
      rw [upd_other _ _ hxG, joinM_left e3, e3]
    · obtain rfl : d = ⟨gc, l, Ic⟩ := by simpa using e
      refine hsc.congr (fun x hx => ?_)
      have hxG : x ≠ G := fun e2 => hd G hGF (e2 ▸ domC x hx)
      rw [upd_other _ _ hxG, joinM_right hS hd (domC x hx)]
  · rw [List.flatMap_append, List.nodup_cons, List.nodup_append]
    have e1 : [(⟨gc, l, Ic⟩ : Ch)].flatMap Ch.I = Ic := by simp
    rw [e1]
    refine ⟨fun e => ?_, nd1.2, hndc, fun x hx y hy e => ?_⟩
    · rcases List.mem_append.1 e with e | e
      · exact nd1.1 e
      · exact hd G hGF (domC G e)
    · subst e
      obtain ⟨d, hd3, hx2⟩ := List.mem_flatMap.1 hx
      exact hd x (domF d hd3 x hx2) (domC x hy)
theorem cst_end {W w : World} {h lo G : Nat} {its : List Item} {cs : List Ch} (H : CSt W (h - 1) G its (cs.map Ch.l) w) (hh : h = 0 → cs = []) (hc : h ≠ 0 → cs.length = its.length + 1) (h1 : lo ≤ its.length) (h6 : its.length ≤ 6) : ClonePost W h lo (weave cs its) (.returned (.pointer (some ⟨G, 0, none⟩))) w := by
  obtain ⟨m, F, ds, hS, hF, hB, hm, hl, hsub, hnd⟩ := H
  refine ⟨G, m, F, G :: ds.flatMap Ch.I, rfl, hS, hF, hB, ⟨its, ds, hm, h1, h6, ?_, (weave_congr hl).symm, rfl⟩, hnd⟩
  have hlen : ds.length = cs.length := by
    have := congrArg List.length hl
    simpa using this
  cases h with
  | zero =>
    rw [kids_zero]
    exact List.eq_nil_of_length_eq_zero (by rw [hlen, hh rfl]; rfl)
  | succ h => exact kids_succ.2 ⟨by rw [hlen]; exact hc (by omega), hsub⟩
set_option maxHeartbeats 1000000 in
theorem clone_nil (W : World) : Calls Tryz.prog 102 #[.pointer none] W fun e w => e = .returned (.pointer none) ∧ W = w := by
  go_enter Tryz.func102, Tryz.ntmps102
  go_wp2
  go_ret
  exact ⟨rfl, rfl⟩
/-- a call of a function of one argument, as one step of a region that draws -/
theorem step_call1 {P : Program} {ops : Array Oper} {o : Oper} {a : Act} {w : World} {K : Act → World → Prop} {Q : Exit → Act → World → Prop} {E : Prop} (hg : o.guard = none) (f : Nat) (s : Operand) (ts : Array TypeId) (ho : o.op = .call { callee := .value (.func f), args := #[s], argTypes := ts })
    (hf : ∀ x w, (callFunc f #[x]).run P w = .ok (.enter f #[x]) w) (x : Value) (hs : a.eval s = x) {R : Ending → World → Prop} (hc : Calls P f #[x] w R) (h : ∀ e w', R e w' → ∃ v, e = .returned v ∧ K (a.put o.dst v) w') : if Region.wanted o (yielded ops a.tmps) = true then Oper.wp P o a w K Q else E := by
  rw [if_pos (by simp [Region.wanted, hg])]
  obtain ⟨dst, op, ty, pos, after, guard⟩ := o
  obtain rfl : op = _ := ho
  unfold Oper.wp
  rw [execOp_call_go]
  have e : #[] ++ #[s].map a.eval ++ #[] = #[x] := by simp [hs]
  rw [e, hf, Oper.upon_enter]
  refine hc.mono ?_
  intro e w' hr
  obtain ⟨v, rfl, hk⟩ := h e w' hr
  exact hk
theorem clone_enter : ∀ x w, (callFunc 102 #[x]).run Tryz.prog w = .ok (.enter 102 #[x]) w := fun x w => by go_simp
theorem node_src (Wc : World) (b g : Nat) (hh : Wc.heap[b]? = some (.cells #[.pointer (some ⟨g, 0, none⟩)] 101 (0, 0))) : From Wc 1 (.slice (some ⟨b, 0, none⟩) 1 1) 1 (ptrCells [g]) := by
  refine .inr ⟨_, _, rfl, rfl, fun j' u hj => ?_⟩
  rw [Go.WideShapes.add_plain, Nat.zero_add, cell_of_row Wc b j' _ 101 (0, 0) hh]
  simpa [ptrCells, ptr] using hj
theorem clone_next {W w1 w3 : World} {h G gc i c c3 n3 : Nat} {A A3 : Option Addr} {its : List Item} {ls : List (List Item)} {l : List Item} {v : Value} {ps : List Nat} {o : Obj} {wx : World}
    (hst : ∀ w1 l gc, ClonePost wx h 3 l (.returned (.pointer (some ⟨gc, 0, none⟩))) w1 → ∀ w u', NdX w G its (ps ++ [gc]) v u' → Touch (G :: blocks v (.slice A i c)) w1 w → (∀ q, q ∈ blocks v u' → q ∈ blocks v (.slice A i c) ∨ w1.heap.size ≤ q) → CSt W h G its (ls ++ [l]) w)
    (hw : ClonePost wx h 3 l (.returned (.pointer (some ⟨gc, 0, none⟩))) w1) (hS : Set1 (w1.alloc o) w3 G its (ps ++ [gc]) v (.slice A i c) (.slice A3 n3 c3)) : CSt W h G its (ls ++ [l]) (w3.setCell ⟨G, 1, none⟩ (.slice A3 n3 c3)) :=
  have z := hS.from ((Touch.refl [] w1).alloc o)
  hst w1 l gc hw _ _ z.nd z.t z.b
theorem node_push {w : World} {v : Value} {n gc : Nat} {ps : List Nat} (h : w.ownsRow 0 101 1 v (n + 1) (ptrCells ps ++ ptrCells [gc])) (hn : ps.length = n) : w.ownsRow 0 101 1 v (ps ++ [gc]).length (ptrCells (ps ++ [gc])) := by
  subst hn
  have e : (ps ++ [gc]).length = ps.length + 1 := by simp
  rw [e, show ptrCells (ps ++ [gc]) = ptrCells ps ++ ptrCells [gc] by simp [ptrCells]]
  exact h
set_option maxRecDepth 100000 in
set_option maxHeartbeats 4000000 in
theorem clone_node {m : NMap} {F : List Nat} {g h : Nat} {its : List Item} {cs : List Ch} (hm : m g = some ⟨its, cs.map Ch.g⟩) (hn1 : 1 ≤ its.length) (hn : its.length ≤ 6) (hcs : cs = [] ∨ cs.length = its.length + 1)
    (CC : ∀ i (hi : i < cs.length) (V : World), Sto V m F → Calls Tryz.prog 102 #[.pointer (some ⟨cs[i].g, 0, none⟩)] V (ClonePost V h 3 cs[i].l))
    (W : World) (hS : Sto W m F) : Calls Tryz.prog 102 #[.pointer (some ⟨g, 0, none⟩)] W fun e w => ∃ G, e = .returned (.pointer (some ⟨G, 0, none⟩)) ∧ CSt W h G its (cs.map Ch.l) w := by
  obtain ⟨v, u, hN, hbl, -⟩ := hS.at hm
  have hN : NdX W g its (cs.map Ch.g) v u := hN
  obtain ⟨q, cq, rfl, hq1, hq2⟩ := row_at hN.r0 (by omega)
  obtain ⟨B, d, rfl⟩ := own_slice hN.r1
  have f0 := hN.c0
  have f1 := hN.c1
  have hgl := hN.lt
  have HN := Lib.hid hN
  have HS := Lib.hid hS
  have HM := Lib.hid hm
  have HCS := Lib.hid hcs
  have HCC := Lib.hid CC
  obtain ⟨nn, hnn⟩ : ∃ nn, its.length = nn := ⟨_, rfl⟩
  obtain ⟨kk, hkk⟩ : ∃ kk, (cs.map Ch.g).length = kk := ⟨_, rfl⟩
  have HNN := Lib.hid hnn
  have HKK := Lib.hid hkk
  rw [hnn] at f0 hn hn1
  rw [hkk] at f1
  have CI : Hid (Calls Tryz.prog 122 #[.slice (some ⟨q, 0, none⟩) nn cq] W fun e w1 => ∃ A c, e = .returned (.slice A nn c) ∧ w1.ownsRow W.heap.size 31 2 (.slice A nn c) nn (itemCells its) ∧ Below W.heap.size W w1) := by
    refine (cloneItems_any q 0 nn cq (itemCells its) W (by rw [itemCells_length, hnn]) (by omega) (hN.r0.cells rfl) (items_one _)).mono ?_
    rintro e w1 ⟨v', rfl, ho, hb⟩
    obtain ⟨A', c', rfl⟩ := own_slice ho
    exact ⟨A', c', rfl, ho, hb⟩
  clear hN hS hm hcs CC hq1 hq2 hbl hnn hkk
  go_enter Tryz.func102, Tryz.ntmps102
  go_wp2_with (first
    | (go_at_call 122; ((with_reducible refine (CI.out).mono ?_); rintro e w1 ⟨A1, c1, rfl, ho, hb1⟩; have HO := Lib.hid ho; have HB1 := Lib.hid hb1; have f1' := (hb1.cell (p := ⟨g, 1, none⟩) hgl).trans f1; have hg1 : g < w1.heap.size := Nat.lt_of_lt_of_le hgl hb1.size; clear ho hb1)))
  have HST : Hid (CSt W h w1.heap.size its ((cs.map Ch.l).take 0) (w1.alloc (.cells #[.slice A1 nn c1, .slice none 0 0] 152))) :=
    cst_start (NdX.fresh _ HO.out HNN.out rfl (World.ownsRow_nil _ 0 _ _) rfl rfl (fun q _ e => by cases e)) (HB1.out.alloc HB1.out.size _) HB1.out.size (fun z hz => by
      rcases mem_blocks.1 hz with e | e
      · exact (HO.out.lt z e).1
      · cases e)
  have HGW : Hid (W.heap.size ≤ w1.heap.size) := HB1.out.size
  obtain ⟨G, hG⟩ : ∃ G, w1.heap.size = G := ⟨_, rfl⟩
  rw [hG] at HST HGW ⊢
  obtain ⟨j0, hj0, kz0, ks0, kb0⟩ := infoNodes
  clear CI HO f1' f0
  go_loopg [20] (kk + 1) (fun gi s20 wy => ∃ i, i + gi = kk + 1 ∧ i ≤ kk ∧ s20 = .int .i64 (i : Nat) ∧ Hid (CSt W h G its ((cs.map Ch.l).take i) wy))
  case atStart => exact ⟨0, by omega, by omega, rfl, HST.out⟩
  case round =>
    obtain ⟨i, hig, hi, rfl, HC⟩ := hrel
    by_cases hlt : i < kk
    · have hcl : i < cs.length := by have := HKK.out; simp at this; omega
      have hBr : Below W.heap.size W wr := by
        obtain ⟨_, _, _, _, _, b, _⟩ := HC.out
        exact b
      obtain ⟨v, u, ps, hNG, hpl, hstep⟩ := cst_step (HC.out.below ((Below.refl _ _).drew))
      have hpl2 : ps.length = i := by rw [hpl, List.length_take, List.length_map]; omega
      obtain ⟨A, c, rfl⟩ := own_slice hNG.r1
      rw [hpl2] at hNG hstep
      obtain ⟨q2, d2, he, -, -⟩ := row_at HN.out.r1 (by rw [HKK.out]; omega)
      injection he with he1 he2 he3
      subst he1 he3
      have hq2l : q2 < W.heap.size := (HN.out.r1.lt q2 rfl).2
      have cp : wr.cell? ⟨q2, i, none⟩ = some (.pointer (some ⟨cs[i].g, 0, none⟩)) := by
        rw [hBr.cell (p := ⟨q2, i, none⟩) hq2l, HN.out.r1.cellAt i (by rw [HKK.out]; omega), ptrCells, List.getElem?_map, List.getElem?_map, List.getElem?_eq_getElem hcl]
        rfl
      have CK : Hid (Calls Tryz.prog 102 #[.pointer (some ⟨cs[i].g, 0, none⟩)] wr.drew (ClonePost wr.drew h 3 cs[i].l)) := HCC.out i hcl wr.drew ((HS.out.below hBr).drew)
      have hto : (cs.map Ch.l).take (i + 1) = (cs.map Ch.l).take i ++ [cs[i].l] := by
        rw [List.take_add_one, List.getElem?_map, List.getElem?_eq_getElem hcl]; rfl
      have HTO := Lib.hid hto
      have HST2 := Lib.hid hstep
      have HNG := Lib.hid hNG
      have HR1 : Hid (∀ V, NdX V G its ps v (.slice A i c) → V.ownsRow 0 101 1 (.slice A i c) i (ptrCells ps)) := fun V hV => by have z := hV.r1; rw [hpl2] at z; exact z
      have HPL := Lib.hid hpl2
      have g1 : wr.cell? ⟨G, 1, none⟩ = some (.slice A i c) := hNG.c1
      have gl : G < wr.heap.size := hNG.lt
      have gf : wr.frozen? ⟨G, 1, none⟩ = false := hNG.f1
      have i1 : (i : Int) < (kk : Int) := by omega
      obtain ⟨gi, hgi⟩ : ∃ gi, cs[i].g = gi := ⟨_, rfl⟩
      obtain ⟨li, hli⟩ : ∃ li, cs[i].l = li := ⟨_, rfl⟩
      rw [hgi] at cp
      rw [hgi, hli] at CK
      rw [hli] at HTO
      have hi6 : i ≤ 100 := by
        have := HCS.out; have := HNN.out
        rcases HCS.out with z | z
        · rw [z] at hcl; simp at hcl
        · omega
      clear hto hstep hNG hpl hpl2 hgi hli hBr hi hq2l
      go_upto_region 7 with fail
      go_region_law (first
        | (refine step_call1 rfl 102 (.tmp 29) #[101] rfl clone_enter (.pointer (some ⟨gi, 0, none⟩)) (by rfl) CK.out ?_; rintro e w2 hw; have HW := Lib.hid hw; obtain ⟨gc, _, _, _, rfl, _, _, hb2, _, _⟩ := hw; refine ⟨_, rfl, ?_⟩; have g1' := (hb2.cell (p := ⟨G, 1, none⟩) gl).trans g1; have gl2 : G < w2.heap.size := Nat.lt_of_lt_of_le gl hb2.size; have HN2 := Lib.hid (HNG.out.new (Touch.ofBelow hb2)); clear hb2)
        | (refine step_append_any rfl (.tmp 28) (.tmp 31) 150 rfl 0 101 j0 (.pointer none) 1 8 Tryz.underlying150 hj0 kz0 ks0 kb0 rfl (by decide) (.slice A i c) i (ptrCells ps) (by simp [Act.eval]) (HR1.out _ (HN2.out.new ((Touch.refl _ _).alloc _))) (.slice (some ⟨w2.heap.size, 0, none⟩) 1 1) 1 (ptrCells [gc]) (by simp [Act.eval]) (node_src _ _ gc (heap_alloc_new _ _)) (ptr_one _) (by unfold maxLen; omega) (by omega) (Nat.zero_le _) ?_; intro A3 c3 w3 ho3 hg3 hs3; have hS := Set1.of (ps' := ps ++ [gc]) (HN2.out.new ((Touch.refl _ _).alloc _)) hg3 (node_push ho3 HPL.out) hs3; have sc := hS.c; have sf := hS.f; have HS1 := Lib.hid hS; clear ho3 hg3 hs3 hS))
      all_goals
        go_wp2_with fail
        go_roundg (gk - 1)
        case measure => omega
        case rel => exact ⟨i + 1, by omega, by omega, by go_num, by rw [HTO.out]; exact clone_next HST2.out HW.out HS1.out⟩
    · obtain rfl : i = kk := by omega
      have HE : Hid (CSt W h G its (cs.map Ch.l) wr) := by
        have z := HC.out
        rw [List.take_of_length_le (by have := HKK.out; simp at this; simp; omega)] at z
        exact z
      clear hi hig hlt
      go_wp2_with fail
      go_ret
      exact ⟨G, rfl, HE.out⟩
theorem clone_sub {m : NMap} {F : List Nat} : ∀ {h lo : Nat} {d : Ch}, Sub m h lo 6 d → 1 ≤ lo → ∀ (W : World), Sto W m F → Calls Tryz.prog 102 #[.pointer (some ⟨d.g, 0, none⟩)] W (ClonePost W h lo d.l) := by
  intro h
  induction h with
  | zero =>
    rintro lo d ⟨its, cs, hm, h1, h6, hk, hl, -⟩ hlo W hS
    rw [kids_zero] at hk
    subst hk
    refine (clone_node (h := 0) hm (by omega) h6 (.inl rfl) (fun i hi => by cases hi) W hS).mono ?_
    rintro e w ⟨G, rfl, hC⟩
    rw [hl]
    exact cst_end hC (fun _ => rfl) (fun z => absurd rfl z) h1 h6
  | succ h ih =>
    rintro lo d ⟨its, cs, hm, h1, h6, hk, hl, -⟩ hlo W hS
    rw [kids_succ] at hk
    obtain ⟨hc, hd⟩ := hk
    refine (clone_node (h := h) hm (by omega) h6 (.inr hc) (fun i hi V hV => ih (hd _ (List.getElem_mem hi)) (by omega) V hV) W hS).mono ?_
    rintro e w ⟨G, rfl, hC⟩
    rw [hl]
    exact cst_end (h := h + 1) hC (fun z => absurd z (by omega)) (fun _ => hc) h1 h6
end Go.Proofs.YthgndgoljchnfaaGreat
namespace Go.Proofs.YthgndgoljchnfaaGreat
open Go.RowKit

def CopyPost (W : World) (most : Int) (l : List Item) (e : Ending) (w' : World) : Prop :=
  ∃ g' F', e = .returned (.pointer (some ⟨g', 0, none⟩)) ∧ SH w' g' most l F' ∧ (∀ q ∈ F', W.heap.size ≤ q) ∧ Below W.heap.size W w'
/-- a top and all below it, made anew -/
def TopPost (V : World) (l : List Item) (e : Ending) (w : World) : Prop :=
  ∃ top' m' F', e = .returned (optPtr top') ∧ Sto w m' F' ∧ (∀ q ∈ F', V.heap.size ≤ q) ∧ Below V.heap.size V w ∧ TreeIs m' top' l
theorem copy_end {W V w : World} {G : Nat} {top top' : Option Nat} {m' : NMap} {F' : List Nat} {most : Int} {l : List Item} (hX : ShX V G top (l.length : Nat) most) (hWG : W.heap.size ≤ G) (hV : Below W.heap.size W V) (hr : Rising l) (hlm : (l.length : Int) ≤ most) (hm2 : most ≤ 200)
    (hS : Sto w m' F') (hF : ∀ q ∈ F', V.heap.size ≤ q) (hb : Below V.heap.size V w) (hT : TreeIs m' top' l) {v : Value} (hv : optPtr top' = v) : CopyPost W most l (.returned (.pointer (some ⟨G, 0, none⟩))) (w.setCell ⟨G, 0, none⟩ v) := by
  subst hv
  have hGV := hX.lt
  have hG : G ∉ F' := fun e => by have := hF G e; omega
  have t1 : Touch [G] w (w.setCell ⟨G, 0, none⟩ (optPtr top')) := (Touch.refl _ _).set (.inl (by simp)) _
  have hB : Below W.heap.size W w := hV.trans (hb.mono hV.size)
  refine ⟨G, G :: F', rfl, ⟨top', m', F', (hX.touch (Touch.ofBelow (F := []) hb) (by simp)).set0, hS.touch t1 (fun q hq e => hG (by simp at e; rw [← e]; exact hq)), hG, rfl, hT, hr, hlm, hm2⟩, fun q hq => ?_, Touch.acc hB t1 (fun x hx => by simp at hx; rw [hx]; exact hWG)⟩
  rcases List.mem_cons.1 hq with e | e
  · rw [e]; exact hWG
  · exact Nat.le_trans hV.size (hF q e)
theorem optPtr_is (top : Option Nat) : ∃ p, optPtr top = .pointer p := by cases top <;> exact ⟨_, rfl⟩
set_option maxRecDepth 100000 in
set_option maxHeartbeats 1000000 in
theorem shCopy_any {W : World} {gs : Nat} {most : Int} {l : List Item} {F : List Nat} (h : SH W gs most l F) :
    Calls Tryz.prog 84 #[.pointer (some ⟨gs, 0, none⟩)] W (CopyPost W most l) := by
  obtain ⟨top, m, F1, hX, hS, hgs, rfl, hT, hr, hlm, hm2⟩ := h
  have CR := Lib.hid (ready_any gs W hX)
  have c0 := hX.c0
  have c1 := hX.c1
  have c2 := hX.c2
  have c3 := hX.c3
  have CG : Hid (∀ V, Below W.heap.size W V → Calls Tryz.prog 102 #[optPtr top] V (TopPost V l)) := by
    intro V hV
    have hSV := hS.below hV
    cases top with
    | none =>
      have hl : l = [] := hT
      refine (clone_nil V).mono ?_
      rintro e w ⟨rfl, rfl⟩
      exact ⟨none, fun _ => none, [], rfl, Sto.empty _, (by simp), Below.refl _ _, hl⟩
    | some t =>
      obtain ⟨h, I, s, hnd⟩ := hT
      refine (clone_sub s (Nat.le_refl _) V hSV).mono ?_
      rintro e w ⟨g, m', F', I', rfl, a, b, c, d, e2⟩
      exact ⟨some g, m', F', rfl, a, b, c, h, I', d, e2⟩
  obtain ⟨p0, hp0⟩ := optPtr_is top
  have HP := Lib.hid hp0
  obtain ⟨n, hn⟩ : ∃ n : Int, ((l.length : Nat) : Int) = n := ⟨_, rfl⟩
  have HN := Lib.hid hn
  rw [hp0] at c0 CG
  rw [hn] at c1
  have hgl := hX.lt
  clear hX hS hT hp0 hgs hn
  have HR := Lib.hid hr
  have HLM := Lib.hid hlm
  have HM2 := Lib.hid hm2
  clear hr hlm hm2
  go_enter Tryz.func84, Tryz.ntmps84
  go_wp2_with (first
    | (go_at_call 81; ((with_reducible refine (CR.out).mono ?_); rintro e w1 ⟨rfl, rfl⟩))
    | (go_at_call 102; ((with_reducible refine (CG.out _ (by first | exact (Below.refl _ _).alloc (Nat.le_refl _) _ | exact ((Below.refl _ _).alloc (Nat.le_refl _) _).set (by simp) _)).mono ?_); rintro e w1 ⟨top', m', F', rfl, a, b, c, d⟩; obtain ⟨p1, hp1⟩ := optPtr_is top'; rw [hp1]; have HP1 := Lib.hid hp1; have HA := Lib.hid a; have HB := Lib.hid b; have HC := Lib.hid c; have HD := Lib.hid d; clear a b d hp1; have hc0 := (c.cell (p := ⟨W.heap.size, 0, none⟩) (by simp)); have hf0 : w1.frozen? ⟨W.heap.size, 0, none⟩ = false := (c.frozen (p := ⟨W.heap.size, 0, none⟩) (by simp)).trans (by go_simp); clear c)))
  go_ret
  refine copy_end (V := W.alloc (.cells #[.pointer p0, .int .i64 n, .int .i64 most, .bool true] 103)) (top := top) ⟨by simp, ?_, ?_, by go_simp, by go_simp, by go_simp, by go_simp⟩ (Nat.le_refl _) ((Below.refl _ _).alloc (Nat.le_refl _) _) HR.out HLM.out HM2.out HA.out HB.out HC.out HD.out HP1.out
  · rw [HP.out]; go_simp
  · rw [HN.out]; go_simp
/-- the code's own shelf keeps what the walks of the statements ask of it -/
theorem shelfLaws : ShelfLaws SH where
  touch h ht hG := h.touch ht hG
  ltF h := h.ltF
  rising h := by
    obtain ⟨_, _, _, _, _, _, _, _, h, _⟩ := h
    exact h
  new := shNew_any
  put k v h hk hv := shPut_any k v h hk hv
  del k h := shDel_any k h
  get k h := shGet_any k h
  len h := shLen_any h
  items h := shItems_any h
  copy h := shCopy_any h

/-! ### A nil shelf -/
end Go.Proofs.YthgndgoljchnfaaGreat
namespace Go.Proofs.YthgndgoljchnfaaGreat
open Go.RowKit

theorem rs_ltg {w : World} {gr : Nat} {Fr : List Nat} {most : Int} {lr : List Item} (h : RS w gr Fr most lr) : gr < w.heap.size := by
  obtain ⟨A, c, ⟨h1, _⟩, _⟩ := h
  exact h1
theorem rs_ltF {w : World} {gr : Nat} {Fr : List Nat} {most : Int} {lr : List Item} (h : RS w gr Fr most lr) : ∀ q ∈ Fr, q < w.heap.size := by
  obtain ⟨A, c, _, _, _, h8⟩ := h
  exact fun q hq => (h8 q hq).1
/-- the shelf at gs, the document's at gr, both of the call's own, no block of both; P: blocks that none of them has -/
def OSR (SH : World → Nat → Int → List Item → List Nat → Prop) (W w : World) (P : List Nat) (gs : Nat) (l : List Item) (gr : Nat) (lr : List Item) : Prop :=
  Below W.heap.size W w ∧ ∃ F Fr, SH w gs 200 l F ∧ RS w gr Fr 200 lr ∧ (∀ q ∈ F, W.heap.size ≤ q ∧ q ≠ gr ∧ q ∉ Fr ∧ q ∉ P) ∧ (W.heap.size ≤ gr ∧ ∀ q ∈ Fr, W.heap.size ≤ q) ∧ gr ∉ P ∧ ∀ q ∈ P, q < w.heap.size
section
variable {SH : World → Nat → Int → List Item → List Nat → Prop} {W w w1 : World} {P : List Nat} {gs gr : Nat} {l lr : List Item}
theorem OSR.below (L : ShelfLaws SH) (h : OSR SH W w P gs l gr lr) (hb : Below w.heap.size w w1) : OSR SH W w1 P gs l gr lr := by
  obtain ⟨a, F, Fr, b, c, d, e, f, g⟩ := h
  have t : Touch [] w w1 := Touch.ofBelow hb
  exact ⟨acc a hb, F, Fr, L.touch b t (by simp), c.touch t (by simp) (by simp), d, e, f, fun q hq => Nat.lt_of_lt_of_le (g q hq) hb.size⟩
theorem OSR.drew (L : ShelfLaws SH) (h : OSR SH W w P gs l gr lr) : OSR SH W w.drew P gs l gr lr := h.below L (Below.refl _ _).drew
theorem OSR.start (L : ShelfLaws SH) (h : OS SH W w gs 200 []) (hb : Below w.heap.size w w1) (hr : RS w1 w.heap.size [] 200 []) : OSR SH W w1 [] gs [] w.heap.size [] := by
  obtain ⟨a, F, b, c⟩ := h
  exact ⟨acc a hb, F, [], L.touch b (Touch.ofBelow (F := []) hb) (by simp), hr, fun q hq => ⟨c q hq, fun e => by have := L.ltF b q hq; omega, by simp, by simp⟩, ⟨a.size, by simp⟩, by simp, by simp⟩
theorem OSR.put (L : ShelfLaws SH) (h : OSR SH W w P gs l gr lr) (k v : ByteArray) (hk : k.size ≤ maxLen) (hv : v.size ≤ maxLen) {r : Int} {l' : List Item} (hr : putE 200 l k v = r) (hl : putS 200 l k v = l') :
    Calls Tryz.prog 75 #[.pointer (some ⟨gs, 0, none⟩), .string k, .string v] w fun e w' => e = .returned (.int .i64 r) ∧ OSR SH W w' P gs l' gr lr ∧ ∃ G, Touch G w w' ∧ (∀ q ∈ G, W.heap.size ≤ q) ∧ ∀ q ∈ P, q ∉ G := by
  subst hr hl
  obtain ⟨a, F, Fr, b, c, d, e, f, g⟩ := h
  refine (L.put k v b hk hv).mono ?_
  rintro e' w' ⟨rfl, F', h4, h5, h6⟩
  refine ⟨rfl, ⟨Touch.acc a h5 (fun x hx => (d x hx).1), F', Fr, h4, c.touch h5 (fun x => (d gr x).2.1 rfl) (fun q h1 h2 => (d q h2).2.2.1 h1), fun q hq => ?_, e, f, fun q hq => Nat.lt_of_lt_of_le (g q hq) h5.size⟩, F, h5, fun q hq => (d q hq).1, fun q h1 h2 => (d q h2).2.2.2 h1⟩
  rcases h6 q hq with z | z
  · exact d q z
  · refine ⟨Nat.le_trans a.size z, fun x => ?_, fun x => ?_, fun x => ?_⟩
    · have := rs_ltg c; omega
    · have := rs_ltF c q x; omega
    · have := g q x; omega
end
/-- a list of items as it lies -/
def ItemsAt (W : World) (A : Option Addr) (zs : List Item) : Prop :=
  ∃ b off, ∀ i (h : i < zs.length), A = some ⟨b, off, none⟩ ∧ b < W.heap.size ∧ W.cell? ⟨b, off + i * 2, none⟩ = some (.string (zs[i]).1) ∧ W.cell? ⟨b, off + i * 2 + 1, none⟩ = some (.string (zs[i]).2)
end Go.Proofs.YthgndgoljchnfaaGreat
