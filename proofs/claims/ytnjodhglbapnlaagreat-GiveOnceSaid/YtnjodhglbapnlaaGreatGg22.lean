import Derived.Test.YtnjodhglbapnlaaGreatGg21
import Derived.Test.YtnjodhglbapnlaaGreatGg19
import Derived.Test.YtnjodhglbapnlaaGreatGg12
import Derived.Test.YtnjodhglbapnlaaGreatGg13
import Derived.Test.YtnjodhglbapnlaaGreatGg05
set_option maxRecDepth 100000
set_option maxHeartbeats 16000000
namespace Go.Proofs.YtnjodhglbapnlaaGreat
open Go.RowKit
attribute [local go_sem ↓] Go.wp_at_zero Go.wp_at_succ
def yfb (W : World) (h lo : Nat) (l : List Item) (e : Ending) (w : World) : Prop :=
 ∃ (g : Nat) (m : NMap) (F I : List Nat), e = .returned (.pointer (some ⟨g, 0, none⟩)) ∧ Sto w m F ∧ (∀ q ∈ F, W.heap.size ≤ q) ∧ Below W.heap.size W w ∧ Sub m h lo 6 ⟨g, l, I⟩ ∧ I.Nodup
def CSt (W : World) (h G : Nat) (its : List Item) (ls : List (List Item)) (wx : World) : Prop :=
 ∃ (m : NMap) (F : List Nat) (cs : List Ch), Sto wx m F ∧ (∀ q ∈ F, W.heap.size ≤ q) ∧ Below W.heap.size W wx ∧ m G = some ⟨its, cs.map Ch.g⟩ ∧ cs.map Ch.l = ls ∧ (∀ d ∈ cs, Sub m h 3 6 d) ∧ (G :: cs.flatMap Ch.I).Nodup
theorem yxu {W w : World} {h G : Nat} {its : List Item} {v u : Value} (hn : NdX w G its [] v u) (hb : Below W.heap.size W w) (hG : W.heap.size ≤ G) (hv : ∀ q ∈ blocks v u, W.heap.size ≤ q) : CSt W h G its [] w := by
 refine ⟨_, _, [], Sto.single hn, fun q hq => ?_, hb, upd_same _ _ _, rfl, ⟨fun d hd => (by cases hd), (by simp)⟩⟩
 rcases List.mem_cons.1 hq with e | e
 ·omega
 ·exact hv q e
theorem yo5 : ∀ {cs ds : List Ch} {its : List Item}, cs.map Ch.l = ds.map Ch.l → yab cs its = yab ds its
 | [], [], _, _ => rfl
 | [], _ :: _, _, h => by cases h
 | _ :: _, [], _, h => by cases h
 | c :: cs, d :: ds, its, h => by
  simp only [List.map_cons, List.cons.injEq] at h
  cases its with
  | nil => exact h.1
  | cons x its =>
   show c.l ++ x :: yab cs its = d.l ++ x :: yab ds its
   rw [h.1, yo5 h.2]
theorem CSt.below {W wx wy : World} {h G : Nat} {its : List Item} {ls : List (List Item)} (H : CSt W h G its ls wx) (hb : Below wx.heap.size wx wy) : CSt W h G its ls wy := by
 obtain ⟨m, F, cs, hS, hF, hB, r⟩ := H
 exact ⟨m, F, cs, hS.below hb, hF, hB.trans (hb.mono hB.size), r⟩
theorem yxv {W wx : World} {h G : Nat} {its : List Item} {ls : List (List Item)} (H : CSt W h G its ls wx) :
  ∃ v u ps, NdX wx G its ps v u ∧ ps.length = ls.length ∧ ∀ w1 l gc, yfb wx h 3 l (.returned (.pointer (some ⟨gc, 0, none⟩))) w1 → ∀ w u', NdX w G its (ps ++ [gc]) v u' → Touch (G :: blocks v u) w1 w → (∀ q, q ∈ blocks v u' → q ∈ blocks v u ∨ w1.heap.size ≤ q) → CSt W h G its (ls ++ [l]) w := by
 obtain ⟨m, F, cs, hS, hF, hB, hm, hl, hsub, hnd⟩ := H
 obtain ⟨v, u, hN0, -, -⟩ := hS.at hm
 have hN0 : NdX wx G its (cs.map Ch.g) v u := hN0
 refine ⟨v, u, cs.map Ch.g, hN0, by rw [← hl]; simp, fun w1 l gc hc w u' hn ht hb => ?_⟩
 obtain ⟨g', mc, Fc, Ic, he, hSc, hFc, hBc, hsc, hndc⟩ := hc
 obtain rfl : gc = g' := congrArg Addr.block (Option.some.inj (Value.pointer.inj (Ending.returned.inj he)))
 have hd : ∀ q, q ∈ F → q ∉ Fc := fun q h1 h2 => by have := hS.lt q h1; have := hFc q h2; omega
 have hSJ := (hS.below hBc).join hSc hd
 have hmJ : ydl m mc G = some ⟨its, cs.map Ch.g⟩ := ynt hm
 obtain ⟨v2, u2, hN, hbl, hT⟩ := hSJ.at hmJ
 have hN : NdX w1 G its (cs.map Ch.g) v2 u2 := hN
 obtain ⟨rfl, rfl⟩ := (hN0.new (Touch.ofBelow hBc)).eq hN
 obtain ⟨a, b⟩ := hT w its (cs.map Ch.g ++ [gc]) v u' hn ht hb
 have hFJ : ∀ q ∈ F ++ Fc, W.heap.size ≤ q := fun q hq => by
  rcases List.mem_append.1 hq with e | e
  ·exact hF q e
  ·exact Nat.le_trans hB.size (hFc q e)
 have hBw1 : Below W.heap.size W w1 := hB.trans (hBc.mono hB.size)
 have hsz : W.heap.size ≤ w1.heap.size := hBw1.size
 have hGF : G ∈ F := hS.mem hm
 have nd1 := List.nodup_cons.1 hnd
 have domF : ∀ d ∈ cs, ∀ x ∈ d.I, x ∈ F := fun d hd x hx => by
  obtain ⟨nd, e⟩ := (hsub d hd).dom x hx
  exact hS.mem e
 have domC : ∀ x ∈ Ic, x ∈ Fc := fun x hx => by
  obtain ⟨nd, e⟩ := hsc.dom x hx
  exact hSc.mem e
 refine ⟨_, _, cs ++ [⟨gc, l, Ic⟩], a, fun q hq => ?_, hBw1.trans (((ht.below (B := W.heap.size) hsz (fun x hx => ?_))).mono (Nat.le_refl _)), by rw [upd_same]; simp, by rw [List.map_append, hl]; rfl, fun d hd2 => ?_, ?_⟩
 ·rcases b.2 q hq with e | e
  ·exact hFJ q e
  ·omega
 ·rcases List.mem_cons.1 hx with e | e
  ·rw [e]; exact hF G hGF
  ·exact hFJ x (hbl x e)
 ·rcases List.mem_append.1 hd2 with e | e
  ·refine (hsub d e).congr (fun x hx => ?_)
   have hxG : x ≠ G := fun e2 => nd1.1 (List.mem_flatMap.2 ⟨d, e, e2 ▸ hx⟩)
   obtain ⟨nd, e3⟩ := (hsub d e).dom x hx
   rw [ya3 _ _ hxG, ynt e3, e3]
  ·obtain rfl : d = ⟨gc, l, Ic⟩ := by simpa using e
   refine hsc.congr (fun x hx => ?_)
   have hxG : x ≠ G := fun e2 => hd G hGF (e2 ▸ domC x hx)
   rw [ya3 _ _ hxG, yvm hS hd (domC x hx)]
 ·rw [List.flatMap_append, List.nodup_cons, List.nodup_append]
  have e1 : [(⟨gc, l, Ic⟩ : Ch)].flatMap Ch.I = Ic := by simp
  rw [e1]
  refine ⟨fun e => ?_, nd1.2, hndc, fun x hx y hy e => ?_⟩
  ·rcases List.mem_append.1 e with e | e
   ·exact nd1.1 e
   ·exact hd G hGF (domC G e)
  ·subst e
   obtain ⟨d, hd3, hx2⟩ := List.mem_flatMap.1 hx
   exact hd x (domF d hd3 x hx2) (domC x hy)
theorem yo6 {W w : World} {h lo G : Nat} {its : List Item} {cs : List Ch} (H : CSt W (h - 1) G its (cs.map Ch.l) w) (hh : h = 0 → cs = []) (hc : h ≠ 0 → cs.length = its.length + 1) (h1 : lo ≤ its.length) (h6 : its.length ≤ 6) : yfb W h lo (yab cs its) (.returned (.pointer (some ⟨G, 0, none⟩))) w := by
 obtain ⟨m, F, ds, hS, hF, hB, hm, hl, hsub, hnd⟩ := H
 refine ⟨G, m, F, G :: ds.flatMap Ch.I, rfl, hS, hF, hB, ⟨its, ds, hm, h1, h6, ?_, (yo5 hl).symm, rfl⟩, hnd⟩
 have hlen : ds.length = cs.length := by
  have := congrArg List.length hl
  simpa using this
 cases h with
 | zero =>
  rw [ybd]
  exact List.eq_nil_of_length_eq_zero (by rw [hlen, hh rfl]; rfl)
 | succ h => exact ybi.2 ⟨by rw [hlen]; exact hc (by omega), hsub⟩
theorem yxw (W : World) : Calls Tryz.prog 189 #[.pointer none] W fun e w => e = .returned (.pointer none) ∧ W = w := by
 go_enter Tryz.func189, Tryz.ntmps189
 go_wp2
 go_ret
 exact ⟨rfl, rfl⟩
theorem yxx {P : Program} {ops : Array Oper} {o : Oper} {a : Act} {w : World} {K : Act → World → Prop} {Q : Exit → Act → World → Prop} {E : Prop} (hg : o.guard = none) (f : Nat) (s : Operand) (ts : Array TypeId) (ho : o.op = .call { callee := .value (.func f), args := #[s], argTypes := ts })
  (hf : ∀ x w, (callFunc f #[x]).run P w = .ok (.enter f #[x]) w) (x : Value) (hs : a.eval s = x) {R : Ending → World → Prop} (hc : Calls P f #[x] w R) (h : ∀ e w', R e w' → ∃ v, e = .returned v ∧ K (a.put o.dst v) w') : if Region.wanted o (yielded ops a.tmps) = true then Oper.wp P o a w K Q else E := by
 rw [if_pos (by simp [Region.wanted, hg])]
 obtain ⟨dst, op, ty, pos, after, guard⟩ := o
 obtain rfl : op = _ := ho
 unfold Oper.wp
 rw [execOp_call_go]
 have e : #[] ++ #[s].map a.eval ++ #[] = #[x] := by simp [hs]
 rw [e, hf, Oper.upon_enter]
 refine hc.mono ?_
 intro e w' hr
 obtain ⟨v, rfl, hk⟩ := h e w' hr
 exact hk
theorem yxy : ∀ x w, (callFunc 189 #[x]).run Tryz.prog w = .ok (.enter 189 #[x]) w := fun x w => by go_simp
theorem yxz (Wc : World) (b g : Nat) (hh : Wc.heap[b]? = some (.cells #[.pointer (some ⟨g, 0, none⟩)] 209 (0, 0))) : From Wc 1 (.slice (some ⟨b, 0, none⟩) 1 1) 1 (yaq [g]) := by
 refine .inr ⟨_, _, rfl, rfl, fun j' u hj => ?_⟩
 rw [Go.WideShapes.add_plain, Nat.zero_add, cell_of_row Wc b j' _ 209 (0, 0) hh]
 simpa [yaq, ptr] using hj
theorem yx0 {W w1 w3 : World} {h G gc i c c3 n3 : Nat} {A A3 : Option Addr} {its : List Item} {ls : List (List Item)} {l : List Item} {v : Value} {ps : List Nat} {o : Obj} {wx : World}
  (hst : ∀ w1 l gc, yfb wx h 3 l (.returned (.pointer (some ⟨gc, 0, none⟩))) w1 → ∀ w u', NdX w G its (ps ++ [gc]) v u' → Touch (G :: blocks v (.slice A i c)) w1 w → (∀ q, q ∈ blocks v u' → q ∈ blocks v (.slice A i c) ∨ w1.heap.size ≤ q) → CSt W h G its (ls ++ [l]) w)
  (hw : yfb wx h 3 l (.returned (.pointer (some ⟨gc, 0, none⟩))) w1) (hS : Set1 (w1.alloc o) w3 G its (ps ++ [gc]) v (.slice A i c) (.slice A3 n3 c3)) : CSt W h G its (ls ++ [l]) (w3.setCell ⟨G, 1, none⟩ (.slice A3 n3 c3)) :=
 have z := hS.from ((Touch.refl [] w1).alloc o)
 hst w1 l gc hw _ _ z.nd z.t z.b
theorem yx1 {w : World} {v : Value} {n gc : Nat} {ps : List Nat} (h : w.ownsRow 0 209 1 v (n + 1) (yaq ps ++ yaq [gc])) (hn : ps.length = n) : w.ownsRow 0 209 1 v (ps ++ [gc]).length (yaq (ps ++ [gc])) := by
 subst hn
 have e : (ps ++ [gc]).length = ps.length + 1 := by simp
 rw [e, show yaq (ps ++ [gc]) = yaq ps ++ yaq [gc] by simp [yaq]]
 exact h
theorem yo7 {m : NMap} {F : List Nat} {g h : Nat} {its : List Item} {cs : List Ch} (hm : m g = some ⟨its, cs.map Ch.g⟩) (hn1 : 1 ≤ its.length) (hn : its.length ≤ 6) (hcs : cs = [] ∨ cs.length = its.length + 1)
  (CC : ∀ i (hi : i < cs.length) (V : World), Sto V m F → Calls Tryz.prog 189 #[.pointer (some ⟨cs[i].g, 0, none⟩)] V (yfb V h 3 cs[i].l))
  (W : World) (hS : Sto W m F) : Calls Tryz.prog 189 #[.pointer (some ⟨g, 0, none⟩)] W fun e w => ∃ G, e = .returned (.pointer (some ⟨G, 0, none⟩)) ∧ CSt W h G its (cs.map Ch.l) w := by
 obtain ⟨v, u, hN, hbl, -⟩ := hS.at hm
 have hN : NdX W g its (cs.map Ch.g) v u := hN
 obtain ⟨q, cq, rfl, hq1, hq2⟩ := ybs hN.r0 (by omega)
 obtain ⟨B, d, rfl⟩ := yav hN.r1
 have f0 := hN.c0
 have f1 := hN.c1
 have hgl := hN.lt
 have HN := Lib.hid hN
 have HS := Lib.hid hS
 have HM := Lib.hid hm
 have HCS := Lib.hid hcs
 have HCC := Lib.hid CC
 obtain ⟨nn, hnn⟩ : ∃ nn, its.length = nn := ⟨_, rfl⟩
 obtain ⟨kk, hkk⟩ : ∃ kk, (cs.map Ch.g).length = kk := ⟨_, rfl⟩
 have HNN := Lib.hid hnn
 have HKK := Lib.hid hkk
 rw [hnn] at f0 hn hn1
 rw [hkk] at f1
 have CI : Hid (Calls Tryz.prog 199 #[.slice (some ⟨q, 0, none⟩) nn cq] W fun e w1 => ∃ A c, e = .returned (.slice A nn c) ∧ w1.ownsRow W.heap.size 96 2 (.slice A nn c) nn (yaa its) ∧ Below W.heap.size W w1) := by
  refine (yij q 0 nn cq (yaa its) W (by rw [yb8, hnn]) (by omega) (hN.r0.cells rfl) (ybc _)).mono ?_
  rintro e w1 ⟨v', rfl, ho, hb⟩
  obtain ⟨A', c', rfl⟩ := yav ho
  exact ⟨A', c', rfl, ho, hb⟩
 clear hN hS hm hcs CC hq1 hq2 hbl hnn hkk
 go_enter Tryz.func189, Tryz.ntmps189
 go_wp2_with (first
  | (go_at_call 199; ((with_reducible refine (CI.out).mono ?_); rintro e w1 ⟨A1, c1, rfl, ho, hb1⟩; have HO := Lib.hid ho; have HB1 := Lib.hid hb1; have f1' := (hb1.cell (p := ⟨g, 1, none⟩) hgl).trans f1; have hg1 : g < w1.heap.size := Nat.lt_of_lt_of_le hgl hb1.size; clear ho hb1)))
 have HST : Hid (CSt W h w1.heap.size its ((cs.map Ch.l).take 0) (w1.alloc (.cells #[.slice A1 nn c1, .slice none 0 0] 244))) :=
  yxu (NdX.fresh _ HO.out HNN.out rfl (World.ownsRow_nil _ 0 _ _) rfl rfl (fun q _ e => by cases e)) (HB1.out.alloc HB1.out.size _) HB1.out.size (fun z hz => by
   rcases ybb.1 hz with e | e
   ·exact (HO.out.lt z e).1
   ·cases e)
 have HGW : Hid (W.heap.size ≤ w1.heap.size) := HB1.out.size
 obtain ⟨G, hG⟩ : ∃ G, w1.heap.size = G := ⟨_, rfl⟩
 rw [hG] at HST HGW ⊢
 obtain ⟨j0, hj0, kz0, ks0, kb0⟩ := yez
 clear CI HO f1' f0
 go_loopg [20] (kk + 1) (fun gi s20 wy => ∃ i, i + gi = kk + 1 ∧ i ≤ kk ∧ s20 = .int .i64 (i : Nat) ∧ Hid (CSt W h G its ((cs.map Ch.l).take i) wy))
 case atStart => exact ⟨0, by omega, by omega, rfl, HST.out⟩
 case round =>
  obtain ⟨i, hig, hi, rfl, HC⟩ := hrel
  by_cases hlt : i < kk
  ·have hcl : i < cs.length := by have := HKK.out; simp at this; omega
   have hBr : Below W.heap.size W wr := by
    obtain ⟨_, _, _, _, _, b, _⟩ := HC.out
    exact b
   obtain ⟨v, u, ps, hNG, hpl, hstep⟩ := yxv (HC.out.below ((Below.refl _ _).drew))
   have hpl2 : ps.length = i := by rw [hpl, List.length_take, List.length_map]; omega
   obtain ⟨A, c, rfl⟩ := yav hNG.r1
   rw [hpl2] at hNG hstep
   obtain ⟨q2, d2, he, -, -⟩ := ybs HN.out.r1 (by rw [HKK.out]; omega)
   injection he with he1 he2 he3
   subst he1 he3
   have hq2l : q2 < W.heap.size := (HN.out.r1.lt q2 rfl).2
   have cp : wr.cell? ⟨q2, i, none⟩ = some (.pointer (some ⟨cs[i].g, 0, none⟩)) := by
    rw [hBr.cell (p := ⟨q2, i, none⟩) hq2l, HN.out.r1.cellAt i (by rw [HKK.out]; omega), yaq, List.getElem?_map, List.getElem?_map, List.getElem?_eq_getElem hcl]
    rfl
   have CK : Hid (Calls Tryz.prog 189 #[.pointer (some ⟨cs[i].g, 0, none⟩)] wr.drew (yfb wr.drew h 3 cs[i].l)) := HCC.out i hcl wr.drew ((HS.out.below hBr).drew)
   have hto : (cs.map Ch.l).take (i + 1) = (cs.map Ch.l).take i ++ [cs[i].l] := by
    rw [List.take_add_one, List.getElem?_map, List.getElem?_eq_getElem hcl]; rfl
   have HTO := Lib.hid hto
   have HST2 := Lib.hid hstep
   have HNG := Lib.hid hNG
   have HR1 : Hid (∀ V, NdX V G its ps v (.slice A i c) → V.ownsRow 0 209 1 (.slice A i c) i (yaq ps)) := fun V hV => by have z := hV.r1; rw [hpl2] at z; exact z
   have HPL := Lib.hid hpl2
   have g1 : wr.cell? ⟨G, 1, none⟩ = some (.slice A i c) := hNG.c1
   have gl : G < wr.heap.size := hNG.lt
   have gf : wr.frozen? ⟨G, 1, none⟩ = false := hNG.f1
   have i1 : (i : Int) < (kk : Int) := by omega
   obtain ⟨gi, hgi⟩ : ∃ gi, cs[i].g = gi := ⟨_, rfl⟩
   obtain ⟨li, hli⟩ : ∃ li, cs[i].l = li := ⟨_, rfl⟩
   rw [hgi] at cp
   rw [hgi, hli] at CK
   rw [hli] at HTO
   have hi6 : i ≤ 100 := by
    have := HCS.out; have := HNN.out
    rcases HCS.out with z | z
    ·rw [z] at hcl; simp at hcl
    ·omega
   clear hto hstep hNG hpl hpl2 hgi hli hBr hi hq2l
   go_upto_region 7 with fail
   go_region_law (first
    | (refine yxx rfl 189 (.tmp 29) #[209] rfl yxy (.pointer (some ⟨gi, 0, none⟩)) (by rfl) CK.out ?_; rintro e w2 hw; have HW := Lib.hid hw; obtain ⟨gc, _, _, _, rfl, _, _, hb2, _, _⟩ := hw; refine ⟨_, rfl, ?_⟩; have g1' := (hb2.cell (p := ⟨G, 1, none⟩) gl).trans g1; have gl2 : G < w2.heap.size := Nat.lt_of_lt_of_le gl hb2.size; have HN2 := Lib.hid (HNG.out.new (Touch.ofBelow hb2)); clear hb2)
    | (refine yc3 rfl (.tmp 28) (.tmp 31) 242 rfl 0 209 j0 (.pointer none) 1 8 Tryz.underlying242 hj0 kz0 ks0 kb0 rfl (by decide) (.slice A i c) i (yaq ps) (by simp [Act.eval]) (HR1.out _ (HN2.out.new ((Touch.refl _ _).alloc _))) (.slice (some ⟨w2.heap.size, 0, none⟩) 1 1) 1 (yaq [gc]) (by simp [Act.eval]) (yxz _ _ gc (heap_alloc_new _ _)) (ygw _) (by unfold maxLen; omega) (by omega) (Nat.zero_le _) ?_; intro A3 c3 w3 ho3 hg3 hs3; have hS := Set1.of (ps' := ps ++ [gc]) (HN2.out.new ((Touch.refl _ _).alloc _)) hg3 (yx1 ho3 HPL.out) hs3; have sc := hS.c; have sf := hS.f; have HS1 := Lib.hid hS; clear ho3 hg3 hs3 hS))
   all_goals
    go_wp2_with fail
    go_roundg (gk - 1)
    case measure => omega
    case rel => exact ⟨i + 1, by omega, by omega, by go_num, by rw [HTO.out]; exact yx0 HST2.out HW.out HS1.out⟩
  ·obtain rfl : i = kk := by omega
   have HE : Hid (CSt W h G its (cs.map Ch.l) wr) := by
    have z := HC.out
    rw [List.take_of_length_le (by have := HKK.out; simp at this; simp; omega)] at z
    exact z
   clear hi hig hlt
   go_wp2_with fail
   go_ret
   exact ⟨G, rfl, HE.out⟩
theorem yx2 {m : NMap} {F : List Nat} : ∀ {h lo : Nat} {d : Ch}, Sub m h lo 6 d → 1 ≤ lo → ∀ (W : World), Sto W m F → Calls Tryz.prog 189 #[.pointer (some ⟨d.g, 0, none⟩)] W (yfb W h lo d.l) := by
 intro h
 induction h with
 | zero =>
  rintro lo d ⟨its, cs, hm, h1, h6, hk, hl, -⟩ hlo W hS
  rw [ybd] at hk
  subst hk
  refine (yo7 (h := 0) hm (by omega) h6 (.inl rfl) (fun i hi => by cases hi) W hS).mono ?_
  rintro e w ⟨G, rfl, hC⟩
  rw [hl]
  exact yo6 hC (fun _ => rfl) (fun z => absurd rfl z) h1 h6
 | succ h ih =>
  rintro lo d ⟨its, cs, hm, h1, h6, hk, hl, -⟩ hlo W hS
  rw [ybi] at hk
  obtain ⟨hc, hd⟩ := hk
  refine (yo7 (h := h) hm (by omega) h6 (.inr hc) (fun i hi V hV => ih (hd _ (List.getElem_mem hi)) (by omega) V hV) W hS).mono ?_
  rintro e w ⟨G, rfl, hC⟩
  rw [hl]
  exact yo6 (h := h + 1) hC (fun z => absurd z (by omega)) (fun _ => hc) h1 h6
end Go.Proofs.YtnjodhglbapnlaaGreat
namespace Go.Proofs.YtnjodhglbapnlaaGreat
open Go.RowKit
def yo8 (W : World) (most : Int) (l : List Item) (e : Ending) (w' : World) : Prop :=
 ∃ g' F', e = .returned (.pointer (some ⟨g', 0, none⟩)) ∧ SH w' g' most l F' ∧ (∀ q ∈ F', W.heap.size ≤ q) ∧ Below W.heap.size W w'
def yx3 (V : World) (l : List Item) (e : Ending) (w : World) : Prop :=
 ∃ top' m' F', e = .returned (ybq top') ∧ Sto w m' F' ∧ (∀ q ∈ F', V.heap.size ≤ q) ∧ Below V.heap.size V w ∧ ybu m' top' l
theorem yx4 {W V w : World} {G : Nat} {top top' : Option Nat} {m' : NMap} {F' : List Nat} {most : Int} {l : List Item} (hX : ShX V G top (l.length : Nat) most) (hWG : W.heap.size ≤ G) (hV : Below W.heap.size W V) (hr : yah l) (hlm : (l.length : Int) ≤ most) (hm2 : most ≤ 200)
  (hS : Sto w m' F') (hF : ∀ q ∈ F', V.heap.size ≤ q) (hb : Below V.heap.size V w) (hT : ybu m' top' l) {v : Value} (hv : ybq top' = v) : yo8 W most l (.returned (.pointer (some ⟨G, 0, none⟩))) (w.setCell ⟨G, 0, none⟩ v) := by
 subst hv
 have hGV := hX.lt
 have hG : G ∉ F' := fun e => by have := hF G e; omega
 have t1 : Touch [G] w (w.setCell ⟨G, 0, none⟩ (ybq top')) := (Touch.refl _ _).set (.inl (by simp)) _
 have hB : Below W.heap.size W w := hV.trans (hb.mono hV.size)
 refine ⟨G, G :: F', rfl, ⟨top', m', F', (hX.touch (Touch.ofBelow (F := []) hb) (by simp)).set0, hS.touch t1 (fun q hq e => hG (by simp at e; rw [← e]; exact hq)), hG, rfl, hT, hr, hlm, hm2⟩, fun q hq => ?_, Touch.acc hB t1 (fun x hx => by simp at hx; rw [hx]; exact hWG)⟩
 rcases List.mem_cons.1 hq with e | e
 ·rw [e]; exact hWG
 ·exact Nat.le_trans hV.size (hF q e)
theorem yo9 (top : Option Nat) : ∃ p, ybq top = .pointer p := by cases top <;> exact ⟨_, rfl⟩
theorem yx5 {W : World} {gs : Nat} {most : Int} {l : List Item} {F : List Nat} (h : SH W gs most l F) :
  Calls Tryz.prog 164 #[.pointer (some ⟨gs, 0, none⟩)] W (yo8 W most l) := by
 obtain ⟨top, m, F1, hX, hS, hgs, rfl, hT, hr, hlm, hm2⟩ := h
 have CR := Lib.hid (ygz gs W hX)
 have c0 := hX.c0
 have c1 := hX.c1
 have c2 := hX.c2
 have c3 := hX.c3
 have CG : Hid (∀ V, Below W.heap.size W V → Calls Tryz.prog 189 #[ybq top] V (yx3 V l)) := by
  intro V hV
  have hSV := hS.below hV
  cases top with
  | none =>
   have hl : l = [] := hT
   refine (yxw V).mono ?_
   rintro e w ⟨rfl, rfl⟩
   exact ⟨none, fun _ => none, [], rfl, Sto.empty _, (by simp), Below.refl _ _, hl⟩
  | some t =>
   obtain ⟨h, I, s, hnd⟩ := hT
   refine (yx2 s (Nat.le_refl _) V hSV).mono ?_
   rintro e w ⟨g, m', F', I', rfl, a, b, c, d, e2⟩
   exact ⟨some g, m', F', rfl, a, b, c, h, I', d, e2⟩
 obtain ⟨p0, hp0⟩ := yo9 top
 have HP := Lib.hid hp0
 obtain ⟨n, hn⟩ : ∃ n : Int, ((l.length : Nat) : Int) = n := ⟨_, rfl⟩
 have HN := Lib.hid hn
 rw [hp0] at c0 CG
 rw [hn] at c1
 have hgl := hX.lt
 clear hX hS hT hp0 hgs hn
 have HR := Lib.hid hr
 have HLM := Lib.hid hlm
 have HM2 := Lib.hid hm2
 clear hr hlm hm2
 go_enter Tryz.func164, Tryz.ntmps164
 go_wp2_with (first
  | (go_at_call 167; ((with_reducible refine (CR.out).mono ?_); rintro e w1 ⟨rfl, rfl⟩))
  | (go_at_call 189; ((with_reducible refine (CG.out _ (by first | exact (Below.refl _ _).alloc (Nat.le_refl _) _ | exact ((Below.refl _ _).alloc (Nat.le_refl _) _).set (by simp) _)).mono ?_); rintro e w1 ⟨top', m', F', rfl, a, b, c, d⟩; obtain ⟨p1, hp1⟩ := yo9 top'; rw [hp1]; have HP1 := Lib.hid hp1; have HA := Lib.hid a; have HB := Lib.hid b; have HC := Lib.hid c; have HD := Lib.hid d; clear a b d hp1; have hc0 := (c.cell (p := ⟨W.heap.size, 0, none⟩) (by simp)); have hf0 : w1.frozen? ⟨W.heap.size, 0, none⟩ = false := (c.frozen (p := ⟨W.heap.size, 0, none⟩) (by simp)).trans (by go_simp); clear c)))
 go_ret
 refine yx4 (V := W.alloc (.cells #[.pointer p0, .int .i64 n, .int .i64 most, .bool true] 211)) (top := top) ⟨by simp, ?_, ?_, by go_simp, by go_simp, by go_simp, by go_simp⟩ (Nat.le_refl _) ((Below.refl _ _).alloc (Nat.le_refl _) _) HR.out HLM.out HM2.out HA.out HB.out HC.out HD.out HP1.out
 ·rw [HP.out]; go_simp
 ·rw [HN.out]; go_simp
theorem yb2 : yuj SH where
 touch h ht hG := h.touch ht hG
 ltF h := h.ltF
 rising h := by
  obtain ⟨_, _, _, _, _, _, _, _, h, _⟩ := h
  exact h
 new := ywi
 put k v h hk hv := yxc k v h hk hv
 del k h := yxt k h
 get k h := yw1 k h
 len h := ywj h
 items h := yww h
 copy h := yx5 h
section
variable {SH : World → Nat → Int → List Item → List Nat → Prop} {W w w1 : World} {P : List Nat} {gs gr : Nat} {l lr : List Item}
end
def yiq (W : World) (A : Option Addr) (zs : List Item) : Prop :=
 ∃ b off, ∀ i (h : i < zs.length), A = some ⟨b, off, none⟩ ∧ b < W.heap.size ∧ W.cell? ⟨b, off + i * 2, none⟩ = some (.string (zs[i]).1) ∧ W.cell? ⟨b, off + i * 2 + 1, none⟩ = some (.string (zs[i]).2)
def Fine (l : List Item) : Prop := yah l ∧ ∀ x ∈ l, 1 ≤ x.1.size ∧ x.1.size ≤ 16
def CP (SH : World → Nat → Int → List Item → List Nat → Prop) (W w : World) (F : List Nat) (g : Nat) (most : Int) (l : List Item) : Prop :=
 Touch F W w ∧ ∃ F', SH w g most l F' ∧ ∀ q ∈ F', q ∈ F ∨ W.heap.size ≤ q
section
variable {SH : World → Nat → Int → List Item → List Nat → Prop} {W w w1 : World} {F : List Nat} {g : Nat} {most : Int} {l : List Item}
end
def ych (l ks : List Item) : List Item := ks.foldl (fun l x => delN l x.1) l
theorem yx6 (l a : List Item) (x : Item) : ych l (a ++ [x]) = delN (ych l a) x.1 := by simp [ych]
theorem ypa : ∀ (ks : List Item) {l : List Item} (_ : yah l), yah (ych l ks)
 | [], _, h => h
 | x :: ks, _, h => ypa ks (h.del x.1)
theorem ypb : ∀ (ks : List Item) {l : List Item} (_ : yah l) (x : Item), x ∈ ych l ks ↔ x ∈ l ∧ ∀ k ∈ ks, x.1 ≠ k.1
 | [], l, _, x => by simp [ych]
 | k :: ks, l, h, x => by
  have z := ypb ks (h.del k.1) x
  rw [yno h] at z
  show x ∈ ych (delN l k.1) ks ↔ _
  rw [z]
  simp [and_assoc]
def yir (l : List Item) (f t : Nat) : List Item := l.filter fun x => !inB f t (adr x)
theorem ypc {l : List Item} {f t : Nat} {x : Item} : x ∈ arcL l f t ↔ x ∈ l ∧ inB f t (adr x) = true := by
 refine ⟨yu5, fun ⟨h1, h2⟩ => ?_⟩
 unfold arcL inA
 rw [List.mem_append, List.mem_filter, List.mem_filter]
 cases h : decide (f ≤ adr x)
 ·exact .inr ⟨h1, by rw [h2]; rfl⟩
 ·exact .inl ⟨h1, by rw [h2]; rfl⟩
theorem yx7 {l : List Item} {f t : Nat} {x : Item} : x ∈ yir l f t ↔ x ∈ l ∧ inB f t (adr x) = false := by
 unfold yir
 rw [List.mem_filter]
 simp
theorem yx8 {l : List Item} (h : yah l) (p : Item → Bool) : yah (l.filter p) := h.filter p
theorem yx9 {l : List Item} (h : yah l) (f t : Nat) : yah (yir l f t) := yx8 h _
theorem yya {x y : Item} (e : x.1 = y.1) : adr x = adr y := by unfold adr; rw [e]
theorem yyb {l : List Item} (h : yah l) (f t : Nat) : ych l (arcL l f t) = yir l f t := by
 refine ylt (ypa _ h) (yx9 h f t) fun x => ?_
 rw [ypb _ h, yx7]
 refine and_congr_right fun hx => ⟨fun z => ?_, fun z k hk e => ?_⟩
 ·cases c : inB f t (adr x)
  ·rfl
  ·exact absurd rfl (z x (ypc.2 ⟨hx, c⟩))
 ·have := (ypc.1 hk).2
  rw [← yya e, z] at this
  cases this
theorem yyc {most : Int} {l : List Item} {k v : ByteArray} (h : putE most l k v = 0) : yal k = 0 ∧ yas v = 0 := by
 unfold putE at h
 by_cases h1 : yal k = 0
 ·by_cases h2 : yas v = 0
  ·exact ⟨h1, h2⟩
  ·rw [if_neg (by simp [h1]), if_pos h2] at h
   exact absurd h h2
 ·rw [if_pos h1] at h
  exact absurd h h1
attribute [local go_sem] Oper.semAt_some
theorem ykt {W : World} {g : Nat} {most : Int} {l : List Item} {F : List Nat} (h : SH W g most l F) : Src W (some ⟨g, 0, none⟩) l where
 rising := yb2.rising h
 len := by
  obtain ⟨_, _, _, _, _, _, _, _, _, a, b⟩ := h
  omega
 items w hw := yb2.items (h.touch (Touch.ofBelow (F := []) hw) (by simp))
 copy w hw := by
  refine (yb2.copy (h.touch (Touch.ofBelow (F := []) hw) (by simp))).mono ?_
  rintro e w' ⟨g', F', rfl, h1, h2, h3⟩
  exact ⟨_, F', rfl, h3, fun q hq => ⟨h2 q hq, h1.ltF q hq⟩, fun V G t hn => yb2.items (h1.touch t hn)⟩
def ypd (W : World) (g : Nat) (most : Int) (F : List Nat) (a left : List Item) (e : Ending) (w' : World) : Prop :=
 ∃ A c F', e = .returned (.slice A a.length c) ∧ w'.ownsRow W.heap.size 96 2 (.slice A a.length c) a.length (yaa a) ∧ SH w' g most left F' ∧ Touch F W w' ∧ (∀ q ∈ F', q ∈ F ∨ W.heap.size ≤ q) ∧ ∀ q ∈ F', (Value.slice A a.length c).ownBlock ≠ some q
theorem yyd {V w3 w5 : World} {z n0 : Nat} {p : Value} {A A3 : Option Addr} {c c3 m : Nat} {xs : List Value} {Fm F5 : List Nat} {o : Obj} (hn : z + 2 < n0) (h1 : Var V z p) (h2 : Var V (z + 2) (.slice A m c)) (hr : V.ownsRow n0 96 2 (.slice A m c) m xs)
  (hY : ∀ q ∈ Fm, q < V.heap.size) (hD : ∀ q ∈ Fm, q ≠ z ∧ q ≠ z + 2 ∧ (Value.slice A m c).ownBlock ≠ some q)
  (tt : Touch (Value.slice A m c).ownBlock.toList V w3) {k : Nat} {ys : List Value} (ho : w3.ownsRow n0 96 2 (.slice A3 k c3) k ys) (hs : yax (V.alloc o) (.slice A m c) (.slice A3 k c3))
  (td : Touch Fm (w3.setCell ⟨z + 2, 0, none⟩ (.slice A3 k c3)) w5) (h5 : ∀ q ∈ F5, q ∈ Fm ∨ (w3.setCell ⟨z + 2, 0, none⟩ (.slice A3 k c3)).heap.size ≤ q) (h6 : ∀ q ∈ F5, q < w5.heap.size) :
  Left [] ([z, z + 2] ++ (Value.slice A m c).ownBlock.toList ++ Fm) V w5 ([z, z + 2] ++ (Value.slice A3 k c3).ownBlock.toList ++ F5) ∧ Var w5 z p ∧ Var w5 (z + 2) (.slice A3 k c3) ∧ w5.ownsRow n0 96 2 (.slice A3 k c3) k ys ∧ ∀ q ∈ F5, q ≠ z ∧ q ≠ z + 2 ∧ (Value.slice A3 k c3).ownBlock ≠ some q := by
 have hl1 := h1.lt
 have hl2 := h2.lt
 have hown : ∀ q, q ∈ (Value.slice A m c).ownBlock.toList → n0 ≤ q ∧ q < V.heap.size := fun q hq => hr.lt q (by simpa using hq)
 have e4 : (w3.setCell ⟨z + 2, 0, none⟩ (.slice A3 k c3)).heap.size = w3.heap.size := by simp [World.setCell]
 have s3 := tt.size
 have s5 := td.size
 rw [e4] at s5 h5
 have k1 : Var w3 z p := h1.touch tt (fun y => by have := hown _ y; omega)
 have k2 : Var w3 (z + 2) (.slice A m c) := h2.touch tt (fun y => by have := hown _ y; omega)
 have nz : z ∉ Fm := fun y => (hD _ y).1 rfl
 have nz2 : z + 2 ∉ Fm := fun y => (hD _ y).2.1 rfl
 have own3 : ∀ q, (Value.slice A3 k c3).ownBlock = some q → n0 ≤ q ∧ q < w3.heap.size := fun q hq => ho.lt q hq
 have nown : ∀ q, (Value.slice A3 k c3).ownBlock = some q → q ∉ Fm := fun q hq y => by
  rcases hs q hq with u | u
  ·exact (hD q y).2.2 u
  ·have := hY q y
   simp at u
   omega
 refine ⟨⟨⟨(z + 2) :: (Value.slice A m c).ownBlock.toList ++ Fm, ?_, ?_⟩, ?_⟩, (k1.other (by omega) _ _).touch td nz, (k2.set _).touch td nz2, ?_, ?_⟩
 ·exact ((tt.mono (fun x hx => by simp [hx])).set (.inl (by simp)) _).trans td (fun x hx => .inl (List.mem_append_right _ hx))
 ·intro q hq
  refine ⟨?_, by simp⟩
  simp at hq ⊢
  rcases hq with y | y | y
  ·exact .inr (.inl y)
  ·exact .inr (.inr (.inl y))
  ·exact .inr (.inr (.inr y))
 ·intro q hq
  rcases List.mem_append.1 hq with y | y
  ·rcases List.mem_append.1 y with y | y
   ·exact ⟨by simp at y; omega, .inl (by simp at y; simp; omega)⟩
   ·have y' : (Value.slice A3 k c3).ownBlock = some q := by simpa using y
    refine ⟨by have := own3 q y'; omega, ?_⟩
    rcases hs q y' with u | u
    ·exact .inl (by simp [u])
    ·simp at u
     exact .inr (by omega)
  ·refine ⟨h6 q y, ?_⟩
   rcases h5 q y with u | u
   ·exact .inl (List.mem_append_right _ u)
   ·exact .inr (by omega)
 ·exact td.row (((Touch.refl [z + 2] _).set (.inl (by simp)) _).row ho (fun q hq y => by
   have := own3 q hq
   simp at y
   omega)) nown
 ·intro q hq
  rcases h5 q hq with u | u
  ·exact ⟨(hD q u).1, (hD q u).2.1, fun y => nown q y u⟩
  ·refine ⟨by omega, by omega, fun y => ?_⟩
   have := own3 q y
   omega
theorem yye {W : World} {g : Nat} {most : Int} {l : List Item} {F : List Nat} (h : SH W g most l F) (f t : Nat) (hf : f < 18446744073709551616) (ht : t < 18446744073709551616) :
  Calls Tryz.prog 129 #[.pointer (some ⟨g, 0, none⟩), .agg #[.int .u64 (f : Nat), .int .u64 (t : Nat)]] W (ypd W g most F (arcL l f t) (ych l (arcL l f t))) := by
 have HS := Lib.hid (ykt h)
 have HSH := Lib.hid h
 have HF := Lib.hid hf
 have HT := Lib.hid ht
 have hlt := h.ltF
 obtain ⟨i0, hi0, hz0, hs0, hb0⟩ := ydk
 have hxs : (arcL l f t).length ≤ 400 := by
  have h2 := ykn l f t
  have h3 := HS.out.len
  omega
 have HX := Lib.hid hxs
 have HLT := Lib.hid hlt
 clear h hf ht hxs hlt
 refine (callsIn_wide (n := 0)).1 (callsIn_of_wp_marks Tryz.func129 rfl trivial ?_ rfl)
 simp only [Tryz.ntmps129, List.size_toArray, List.length_cons, List.length_nil, Nat.reduceAdd, Nat.reduceSub, Array.replicate_succ, Array.replicate_zero, List.push_toArray, List.append_toArray, List.nil_append, List.cons_append]
 obtain ⟨W0, hW0⟩ : ∃ W0, ((W.alloc (.cells #[.pointer (some ⟨g, 0, none⟩)] 109)).alloc (.cells #[.int .u64 (f : Nat), .int .u64 (t : Nat)] 25)).alloc (.cells #[.slice none 0 0] 22) = W0 := ⟨_, rfl⟩
 have hV1 : Var W0 W.heap.size (.pointer (some ⟨g, 0, none⟩)) := by
  rw [← hW0]; exact ((Var.new W _ _).old _).old _
 have hV2 : Var W0 (W.heap.size + 2) (.slice none 0 0) := by
  have z := Var.new ((W.alloc (.cells #[.pointer (some ⟨g, 0, none⟩)] 109)).alloc (.cells #[.int .u64 (f : Nat), .int .u64 (t : Nat)] 25)) (.slice none 0 0) 22
  rw [World.size_alloc, World.size_alloc] at z
  rw [← hW0]; exact z
 have hb0' : Below W.heap.size W W0 := by
  rw [← hW0]; exact (((Below.refl _ W).alloc (Nat.le_refl _) _).alloc (by simp) _).alloc (by simp; omega) _
 have hs0' : W0.heap.size = W.heap.size + 3 := by rw [← hW0]; simp
 have HV1 := Lib.hid hV1
 have HV2 := Lib.hid hV2
 have HB0 := Lib.hid hb0'
 have HS0 := Lib.hid hs0'
 have HW0 := Lib.hid hW0
 clear hV1 hV2 hb0' hs0' hW0
 gi_wp2_with (refine ⟨trivial, rfl, ?_⟩; gi_at_call 106; refine (callsIn_wide.2 (yor _ f t _)).mono ?_; rintro e W2 ⟨a0, a1, rfl, ca0, ca1, ca2, hb2⟩)
 rw [HW0.out] at hb2
 have HB : Hid (Below W.heap.size W W2) := HB0.out.trans (hb2.mono HB0.out.size)
 have v1 := HV1.out.below hb2
 have v2 := HV2.out.below hb2
 have hz : W.heap.size + 3 ≤ W2.heap.size := by have := hb2.size; rw [HS0.out] at this; exact this
 have hsh : SH W2 g most l F := HSH.out.touch (Touch.ofBelow (F := []) HB.out) (by simp)
 clear hb2
 refine ygm (gf := 163) (lb := #[.pointer (some ⟨a0, 0, none⟩), .pointer (some ⟨a1, 0, none⟩)]) rfl (enters_of Tryz.func163 (by kernel_rfl) rfl) (xs := arcL l f t) (B := [])
  (fun V hV => ynn HS.out.rising (fun w hw => HS.out.copy w (HB.out.trans ((hV.mono HB.out.size).trans (hw.mono (Nat.le_trans HB.out.size hV.size))))) HF.out HT.out ((hV.cell (p := ⟨a0, 0, none⟩) (World.block_lt_of_cell? W2 _ ca0)).trans ca0) ((hV.cell (p := ⟨a1, 0, none⟩) (World.block_lt_of_cell? W2 _ ca1)).trans ca1) ((hV.cell (p := ⟨a1, 1, none⟩) (World.block_lt_of_cell? W2 _ ca2)).trans ca2) [] (by simp)) (by simp) rfl
  (fun m V Y => ∃ A c Fm, Y = [W.heap.size, W.heap.size + 2] ++ (Value.slice A m c).ownBlock.toList ++ Fm ∧ Var V W.heap.size (.pointer (some ⟨g, 0, none⟩)) ∧ Var V (W.heap.size + 2) (.slice A m c) ∧ V.ownsRow W2.heap.size 96 2 (.slice A m c) m (yaa ((arcL l f t).take m)) ∧
   SH V g most (ych l ((arcL l f t).take m)) Fm ∧ (∀ q ∈ Fm, q ∈ F ∨ W.heap.size ≤ q) ∧ ∀ q ∈ Fm, q ≠ W.heap.size ∧ q ≠ W.heap.size + 2 ∧ (Value.slice A m c).ownBlock ≠ some q)
  (fun _ _ _ => False)
  ([W.heap.size, W.heap.size + 2] ++ F) (fun q hq => by
   rcases List.mem_append.1 hq with y | y
   ·simp at y; omega
   ·have := HLT.out q y; omega)
  ⟨none, 0, F, rfl, v1, v2, World.ownsRow_nil _ _ _ _, hsh, fun q hq => .inl hq, fun q hq => ⟨by have := HLT.out q hq; omega, by have := HLT.out q hq; omega, fun y => by cases y⟩⟩
  (by
   rintro m V V1 Y G ⟨A, c, Fm, rfl, h1, h2, h3, h4, h5, h6⟩ tt hn
   exact ⟨A, c, Fm, rfl, h1.touch tt (hn _ (by simp)), h2.touch tt (hn _ (by simp)), tt.row h3 (fun q hq => hn q (by simp [hq])), h4.touch tt (fun q hq => hn q (by simp [hq])), h5, h6⟩)
  (fun _ _ _ _ _ h _ _ => h)
  (fun x => { tmps := #[.pointer (some ⟨g, 0, none⟩), .agg #[.int .u64 (f : Nat), .int .u64 (t : Nat)], .pointer (some ⟨W.heap.size, 0, none⟩), .pointer (some ⟨W.heap.size + 1, 0, none⟩), .slice none 0 0, .pointer (some ⟨W.heap.size + 1 + 1, 0, none⟩), .string x.1, .string x.2, .pointer (some ⟨g, 0, none⟩), .agg #[.int .u64 (f : Nat), .int .u64 (t : Nat)], .func (.func 163) #[] #[.pointer (some ⟨a0, 0, none⟩), .pointer (some ⟨a1, 0, none⟩)], .string x.1, .string x.2, undef, undef, undef, undef, undef, undef, undef, undef, undef, undef], defers := [] })
  ?assign ?body ?done ?stop
 case assign =>
  intro lp x V K hK
  gi_wp2
  exact hK
 case body =>
  rintro lp m ⟨xk, xv⟩ V Y hV hx ⟨A, c, Fm, rfl, h1, h2, h3, h4, h5, h6⟩ hY
  have hm : m < 400 := by
   have := (List.getElem?_eq_some_iff.1 hx).1
   have := HX.out
   omega
  have htk : (arcL l f t).take (m + 1) = (arcL l f t).take m ++ [(xk, xv)] := by rw [List.take_add_one, hx]; rfl
  have c1 := h1.val
  have c2 := h2.val
  have f2 := h2.free
  have H1 := Lib.hid h1
  have H2 := Lib.hid h2
  have HR := Lib.hid h3
  have H4 := Lib.hid h4
  have H5 := Lib.hid h5
  have H6 := Lib.hid h6
  have HTK := Lib.hid htk
  have HY := Lib.hid hY
  have hsz : W2.heap.size ≤ V.heap.size := hV
  have HN : Hid (∀ q, q < W2.heap.size → q ∉ (Value.slice A m c).ownBlock.toList) := fun q hq z => by
   have := (HR.out.lt q (by simpa using z)).1
   omega
  clear h1 h2 h3 h4 h5 h6 htk hY hx
  gi_wp2_with (first
   | (gi_at_builtin; refine yko rfl (.tmp 13) (.tmp 17) 22 rfl W2.heap.size 96 i0 (.agg #[.string ⟨#[]⟩, .string ⟨#[]⟩]) 2 32 Tryz.underlying22 hi0 hz0 hs0 hb0 rfl (by decide) (.slice A m c) m (yaa ((arcL l f t).take m)) rfl (HR.out.alloc _) (.slice (some ⟨V.heap.size, 0, none⟩) 1 1) 1 (yaa [(xk, xv)]) rfl (yg0 _ _ xk xv (heap_alloc_new _ _)) (ybc _) (by unfold maxLen; omega) (by omega) (by simp; omega) ?_; intro A3 c3 w3 ho3 hg3 hs3; have tt : Touch (Value.slice A m c).ownBlock.toList V w3 := ((Touch.refl _ V).alloc _).grown hg3 (fun k hk => .inl (by simp [hk])); have HTT := Lib.hid tt; have c2 := (H2.out.touch tt (HN.out _ (by omega))).val; have f2 := (H2.out.touch tt (HN.out _ (by omega))).free; have c1 : (w3.setCell ⟨W.heap.size + 2, 0, none⟩ (.slice A3 (m + 1) c3)).cell? ⟨W.heap.size, 0, none⟩ = some (.pointer (some ⟨g, 0, none⟩)) := ((H1.out.touch tt (HN.out _ (by omega))).other (by omega) _ _).val; have HO3 := Lib.hid ho3; have HS3 := Lib.hid hs3; have HD4 : Hid (SH (w3.setCell ⟨W.heap.size + 2, 0, none⟩ (.slice A3 (m + 1) c3)) g most (ych l ((arcL l f t).take m)) Fm) := H4.out.touch ((tt.mono (G := (W.heap.size + 2) :: (Value.slice A m c).ownBlock.toList) (fun x hx => by simp [hx])).set (.inl (by simp)) _) (fun q hq y => by have z := H6.out q hq; simp at y; rcases y with y | y; exact z.2.1 y; exact z.2.2 y); clear tt ho3 hg3 hs3)
   | (refine ⟨trivial, rfl, ?_⟩; gi_at_call 139; refine (CallsIn.inRound lp (callsIn_wide.2 (yb2.del xk HD4.out))).mono ?_; rintro e w5 ⟨rfl, F5, k1, k2, k3⟩))
  obtain ⟨z1, z2, z3, z4, z5⟩ := yyd (by omega) H1.out H2.out HR.out (fun q hq => HY.out q (List.mem_append_right _ hq)) H6.out HTT.out HO3.out HS3.out k2 k3 k1.ltF
  refine ⟨_, z1, A3, c3, F5, rfl, z2, z3, by rw [HTK.out, yc0]; exact z4, by rw [HTK.out, yx6]; exact k1, fun q hq => ?_, z5⟩
  rcases k3 q hq with y | y
  ·exact H5.out q y
  ·have e4 : (w3.setCell ⟨W.heap.size + 2, 0, none⟩ (.slice A3 (m + 1) c3)).heap.size = w3.heap.size := by simp [World.setCell]
   have := HTT.out.size
   rw [e4] at y
   exact .inr (by omega)
 case done =>
  rintro D V Y hD hDn hL ⟨A, c, Fm, rfl, h1, h2, h3, h4, h5, h6⟩ hK
  have htk : (arcL l f t).take (arcL l f t).length = arcL l f t := List.take_length
  rw [htk] at h3 h4
  have c2 := h2.val
  have HK := Lib.hid hK
  have hp : Touch [D] V (V.putObj D (.deferred none)) := (Touch.refl _ _).put (.inl (by simp)) _
  have HR : Hid ((V.putObj D (.deferred none)).ownsRow W2.heap.size 96 2 (.slice A (arcL l f t).length c) (arcL l f t).length (yaa (arcL l f t))) := hp.row h3 (fun q hq z => hDn (by simp at z; simp [← z, hq]))
  have HSD : Hid (SH (V.putObj D (.deferred none)) g most (ych l (arcL l f t)) Fm) := h4.touch hp (fun q hq z => hDn (by simp at z; simp [← z, hq]))
  have HT2 : Hid (Touch F W (V.putObj D (.deferred none))) := by
   obtain ⟨⟨G, tg, hG⟩, _⟩ := hL
   refine ((Touch.ofBelow HB.out).trans tg (fun x hx => ?_)).put (.inr (by have := HB.out.size; omega)) _
   have y := (hG x hx).1
   rcases List.mem_append.1 y with y | y
   ·exact .inr (by simp at y; omega)
   ·exact .inl y
  have H5 := Lib.hid h5
  have H6 := Lib.hid h6
  clear hL h1 h2 h3 h4 h5 h6
  gi_wp2
  refine ⟨by simp, .inl ⟨_, _, rfl, run_takeDeferred HK.out, ?_⟩⟩
  exact ⟨_, results_tmp rfl _ _ _, A, c, Fm, rfl, ybp HR.out HB.out.size, HSD.out, HT2.out, H5.out, fun q hq => (H6.out q hq).2.2⟩
 case stop =>
  rintro D c V Y hD hDn hL h hK
  exact h.elim
end Go.Proofs.YtnjodhglbapnlaaGreat
namespace Go.Proofs.YtnjodhglbapnlaaGreat
open Go.RowKit
attribute [local go_sem] Oper.semAt_some
def ycb (xs : List Item) (n : Nat) : ByteArray := match xs[n]? with
 | some x => x.1
 | none => ⟨#[]⟩
def yyf (W : World) (xs : List Item) (n : Nat) (e : Ending) (w' : World) : Prop :=
 ∃ A c, e = .returned (.tuple #[.slice A (xs.take n).length c, .bool (decide (n < xs.length)), .string (ycb xs n)]) ∧
  w'.ownsRow W.heap.size 96 2 (.slice A (xs.take n).length c) (xs.take n).length (yaa (xs.take n)) ∧ Below W.heap.size W w'
def yyg (s n0 : Nat) (xs : List Item) (n : Int) (V : World) (Y : List Nat) : Prop :=
 ∃ (A : Option Addr) (c m : Nat), m = n.toNat ∧ m < xs.length ∧ Y = [s, s + 1, s + 2, s + 3] ++ (Value.slice A m c).ownBlock.toList ∧ Var V (s + 1) (.slice A m c) ∧ Var V (s + 2) (.bool true) ∧ Var V (s + 3) (.string (ycb xs m)) ∧ V.ownsRow n0 96 2 (.slice A m c) m (yaa (xs.take m))
theorem yyh {V w3 : World} {s n0 : Nat} {v p r : Value} {A A3 : Option Addr} {c c3 m k : Nat} {xs ys : List Value} {B : List Nat} {o : Obj} (hn : s + 3 < n0) (hB : ∀ q ∈ B, q < n0 ∧ s + 4 ≤ q)
  (h1 : Var V s v) (h2 : Var V (s + 1) (.slice A m c)) (h3 : Var V (s + 2) p) (h4 : Var V (s + 3) r) (hr : V.ownsRow n0 96 2 (.slice A m c) m xs)
  (tt : Touch (Value.slice A m c).ownBlock.toList V w3) (ho : w3.ownsRow n0 96 2 (.slice A3 k c3) k ys) (hs : yax (V.alloc o) (.slice A m c) (.slice A3 k c3)) :
  Left B ([s, s + 1, s + 2, s + 3] ++ (Value.slice A m c).ownBlock.toList) V (w3.setCell ⟨s + 1, 0, none⟩ (.slice A3 k c3)) ([s, s + 1, s + 2, s + 3] ++ (Value.slice A3 k c3).ownBlock.toList) ∧
  Var (w3.setCell ⟨s + 1, 0, none⟩ (.slice A3 k c3)) s v ∧ Var (w3.setCell ⟨s + 1, 0, none⟩ (.slice A3 k c3)) (s + 1) (.slice A3 k c3) ∧ Var (w3.setCell ⟨s + 1, 0, none⟩ (.slice A3 k c3)) (s + 2) p ∧ Var (w3.setCell ⟨s + 1, 0, none⟩ (.slice A3 k c3)) (s + 3) r ∧
  (w3.setCell ⟨s + 1, 0, none⟩ (.slice A3 k c3)).ownsRow n0 96 2 (.slice A3 k c3) k ys := by
 have l1 := h1.lt
 have l2 := h2.lt
 have l3 := h3.lt
 have l4 := h4.lt
 have hown : ∀ q, q ∈ (Value.slice A m c).ownBlock.toList → n0 ≤ q ∧ q < V.heap.size := fun q hq => hr.lt q (by simpa using hq)
 have e4 : (w3.setCell ⟨s + 1, 0, none⟩ (.slice A3 k c3)).heap.size = w3.heap.size := by simp [World.setCell]
 have s3 := tt.size
 have own3 : ∀ q, (Value.slice A3 k c3).ownBlock = some q → n0 ≤ q ∧ q < w3.heap.size := fun q hq => ho.lt q hq
 have no : ∀ q, q < n0 → q ∉ (Value.slice A m c).ownBlock.toList := fun q hq y => by have := hown q y; omega
 refine ⟨⟨⟨(s + 1) :: (Value.slice A m c).ownBlock.toList, (tt.mono (fun x hx => by simp [hx])).set (.inl (by simp)) _, ?_⟩, ?_⟩, (h1.touch tt (no _ (by omega))).other (by omega) _ _, (h2.touch tt (no _ (by omega))).set _, (h3.touch tt (no _ (by omega))).other (by omega) _ _, (h4.touch tt (no _ (by omega))).other (by omega) _ _, ?_⟩
 ·intro q hq
  refine ⟨?_, fun y => ?_⟩
  ·simp at hq ⊢
   rcases hq with y | y
   ·exact .inr (.inl y)
   ·exact .inr (.inr (.inr (.inr y)))
  ·have := hB q y
   rcases List.mem_cons.1 hq with z | z
   ·omega
   ·have := hown q z
    omega
 ·intro q hq
  rw [e4]
  rcases List.mem_append.1 hq with y | y
  ·exact ⟨by simp at y; omega, .inl (List.mem_append_left _ y)⟩
  ·have y' : (Value.slice A3 k c3).ownBlock = some q := by simpa using y
   refine ⟨(own3 q y').2, ?_⟩
   rcases hs q y' with u | u
   ·exact .inl (List.mem_append_right _ (by simp [u]))
   ·simp at u
    exact .inr (by omega)
 ·exact ((Touch.refl [s + 1] _).set (.inl (by simp)) _).row ho (fun q hq y => by
   have := own3 q hq
   simp at y
   omega)
theorem ype {V S : World} {s n0 D : Nat} {A : Option Addr} {c m : Nat} {b : Bool} {x : ByteArray} {xs : List Value} (hS : S = (((V.setCell ⟨s + 1, 0, none⟩ (.slice A m c)).setCell ⟨s + 1 + 1, 0, none⟩ (.bool b)).setCell ⟨s + 1 + 1 + 1, 0, none⟩ (.string x)).drew)
  (hn : s + 3 < n0) (hD : n0 ≤ D) (hDn : D ∉ (Value.slice A m c).ownBlock.toList) (h2 : Var V (s + 1) (.slice A m c)) (h3 : Var V (s + 2) (.bool b)) (h4 : Var V (s + 3) (.string x)) (hr : V.ownsRow n0 96 2 (.slice A m c) m xs) (hK : V.heap[D]? = some (.deferred (some []))) :
  S.heap[D]? = some (.deferred (some [])) ∧ (S.putObj D (.deferred none)).cell? ⟨s + 1, 0, none⟩ = some (.slice A m c) ∧ (S.putObj D (.deferred none)).cell? ⟨s + 1 + 1, 0, none⟩ = some (.bool b) ∧ (S.putObj D (.deferred none)).cell? ⟨s + 1 + 1 + 1, 0, none⟩ = some (.string x) ∧
  (S.putObj D (.deferred none)).ownsRow n0 96 2 (.slice A m c) m xs ∧ Touch [s + 1, s + 2, s + 3] V S := by
 have tS : Touch [s + 1, s + 2, s + 3] V S := by
  rw [hS]; exact ((((Touch.refl _ _).set (.inl (by simp)) _).set (.inl (by simp)) _).set (.inl (by simp)) _).drew
 have hK' : S.heap[D]? = some (.deferred (some [])) := (tS.block D (Array.getElem?_eq_some_iff.1 hK).1 (by simp; omega)).trans hK
 have hp : Touch [D] S (S.putObj D (.deferred none)) := (Touch.refl _ _).put (.inl (by simp)) _
 have g2 : Var S (s + 1) (.slice A m c) := by
  rw [hS]; exact (((h2.set _).other (by omega) _ _).other (by omega) _ _).touch (G := []) (Touch.refl _ _).drew (by simp)
 have g3 : Var S (s + 1 + 1) (.bool b) := by
  rw [hS]; exact (((h3.other (by omega) _ _).set _).other (by omega) _ _).touch (G := []) (Touch.refl _ _).drew (by simp)
 have g4 : Var S (s + 1 + 1 + 1) (.string x) := by
  rw [hS]; exact (((h4.other (by omega) _ _).other (by omega) _ _).set _).touch (G := []) (Touch.refl _ _).drew (by simp)
 refine ⟨hK', (g2.touch hp (by simp; omega)).val, (g3.touch hp (by simp; omega)).val, (g4.touch hp (by simp; omega)).val, hp.row (tS.row hr (fun q hq z => ?_)) (fun q hq z => hDn (by simp at z; simp [← z, hq])), tS⟩
 have := (hr.lt q hq).1
 simp at z
 omega
theorem yyi {W : World} {p : Option Addr} {l : List Item} (hs : Src W p l) (f t : ByteArray) (n : Int) (h0 : -9223372036854775808 ≤ n) (h1 : n ≤ 9223372036854775807) :
  Calls Tryz.prog 143 #[.pointer p, .string f, .string t, .int .i64 n] W (yyf W (yae l f t) n.toNat) := by
 have HS := Lib.hid hs
 obtain ⟨i0, hi0, hz0, hs0, hb0⟩ := ydk
 have hxs : (yae l f t).length ≤ 200 := by
  have h2 := List.length_filter_le (fun x : Item => !yad x.1 f && (t.size == 0 || yad x.1 t)) l
  have h3 := HS.out.len
  show (l.filter _).length ≤ 200
  omega
 have HX := Lib.hid hxs
 clear hs hxs
 refine (callsIn_wide (n := 0)).1 (callsIn_of_wp_marks Tryz.func143 rfl trivial ?_ rfl)
 simp only [Tryz.ntmps143, List.size_toArray, List.length_cons, List.length_nil, Nat.reduceAdd, Nat.reduceSub, Array.replicate_succ, Array.replicate_zero, List.push_toArray, List.append_toArray, List.nil_append, List.cons_append]
 obtain ⟨W0, hW0⟩ : ∃ W0, (((W.alloc (.cells #[.int .i64 n] 3)).alloc (.cells #[.slice none 0 0] 22)).alloc (.cells #[.bool false] 4)).alloc (.cells #[.string ⟨#[]⟩] 9) = W0 := ⟨_, rfl⟩
 have v1 : Var W0 W.heap.size (.int .i64 n) := by
  rw [← hW0]; exact (((Var.new W _ _).old _).old _).old _
 have v2 : Var W0 (W.heap.size + 1) (.slice none 0 0) := by
  have z := ((Var.new (W.alloc (.cells #[.int .i64 n] 3)) (.slice none 0 0) 22).old (.cells #[.bool false] 4)).old (.cells #[.string ⟨#[]⟩] 9)
  rw [World.size_alloc] at z
  rw [← hW0]; exact z
 have v3 : Var W0 (W.heap.size + 2) (.bool false) := by
  have z := (Var.new ((W.alloc (.cells #[.int .i64 n] 3)).alloc (.cells #[.slice none 0 0] 22)) (.bool false) 4).old (.cells #[.string ⟨#[]⟩] 9)
  rw [World.size_alloc, World.size_alloc] at z
  rw [← hW0]; exact z
 have v4 : Var W0 (W.heap.size + 3) (.string ⟨#[]⟩) := by
  have z := Var.new (((W.alloc (.cells #[.int .i64 n] 3)).alloc (.cells #[.slice none 0 0] 22)).alloc (.cells #[.bool false] 4)) (.string ⟨#[]⟩) 9
  rw [World.size_alloc, World.size_alloc, World.size_alloc] at z
  rw [← hW0]; exact z
 have hb0' : Below W.heap.size W W0 := by
  rw [← hW0]; exact ((((Below.refl _ W).alloc (Nat.le_refl _) _).alloc (by simp) _).alloc (by simp; omega) _).alloc (by simp; omega) _
 have hs0' : W0.heap.size = W.heap.size + 4 := by rw [← hW0]; simp
 have HV1 := Lib.hid v1
 have HV2 := Lib.hid v2
 have HV3 := Lib.hid v3
 have HV4 := Lib.hid v4
 have HB0 := Lib.hid hb0'
 have HS0 := Lib.hid hs0'
 have HW0 := Lib.hid hW0
 clear v1 v2 v3 v4 hb0' hs0' hW0
 gi_wp2
 refine wpIn_wide.2 (wp_scope_straight ((wpIn_wide (n := 0)).1 ?_))
 gi_wp2
 refine wpIn_label ?_
 gi_wp2_with (refine ⟨trivial, rfl, ?_⟩; gi_at_call 165; refine (callsIn_wide.2 (ynm p f t _)).mono ?_; rintro e W2 ⟨a0, a1, a2, rfl, ca0, ca1, ca2, la1, la2, hb2⟩)
 rw [HW0.out] at hb2 la1 la2
 have HB : Hid (Below W.heap.size W W2) := HB0.out.trans (hb2.mono HB0.out.size)
 have v1 := HV1.out.below hb2
 have v2 := HV2.out.below hb2
 have v3 := HV3.out.below hb2
 have v4 := HV4.out.below hb2
 have hz : W.heap.size + 4 ≤ W2.heap.size := by have := hb2.size; rw [HS0.out] at this; exact this
 have lt1 : a1 < W2.heap.size := World.block_lt_of_cell? W2 _ ca1
 have lt2 : a2 < W2.heap.size := World.block_lt_of_cell? W2 _ ca2
 rw [HS0.out] at la1 la2
 clear hb2
 have hBB : ∀ q ∈ [a1, a2], q < W2.heap.size ∧ W.heap.size + 4 ≤ q := fun q hq => by simp at hq; omega
 have HBB := Lib.hid hBB
 clear hBB la1 la2
 refine ygm (gf := 190) (lb := #[.pointer (some ⟨a0, 0, none⟩), .pointer (some ⟨a1, 0, none⟩), .pointer (some ⟨a2, 0, none⟩)]) rfl (enters_of Tryz.func190 (by kernel_rfl) rfl) (xs := yae l f t) (B := [a1, a2])
  (fun V hV => yng HS.out.rising (fun w hw => HS.out.items w (HB.out.trans ((hV.mono HB.out.size).trans (hw.mono (Nat.le_trans HB.out.size hV.size))))) ((hV.cell (p := ⟨a0, 0, none⟩) (World.block_lt_of_cell? W2 _ ca0)).trans ca0) ((hV.cell (p := ⟨a1, 0, none⟩) lt1).trans ca1) ((hV.cell (p := ⟨a2, 0, none⟩) lt2).trans ca2) [a1, a2] (by simp) (by simp) (fun q hq => Nat.lt_of_lt_of_le (HBB.out q hq).1 hV.size)) (fun q hq => (HBB.out q hq).1) rfl
  (fun m V Y => ∃ A c, Y = [W.heap.size, W.heap.size + 1, W.heap.size + 2, W.heap.size + 3] ++ (Value.slice A m c).ownBlock.toList ∧ Var V W.heap.size (.int .i64 n) ∧ Var V (W.heap.size + 1) (.slice A m c) ∧ Var V (W.heap.size + 2) (.bool false) ∧ Var V (W.heap.size + 3) (.string ⟨#[]⟩) ∧ V.ownsRow W2.heap.size 96 2 (.slice A m c) m (yaa ((yae l f t).take m)) ∧ m ≤ n.toNat)
  (fun k V Y => k = .exit 0 ∧ yyg W.heap.size W2.heap.size (yae l f t) n V Y)
  [W.heap.size, W.heap.size + 1, W.heap.size + 2, W.heap.size + 3] (by simp; omega) ⟨none, 0, rfl, v1, v2, v3, v4, World.ownsRow_nil _ _ _ _, Nat.zero_le _⟩
  (by
   rintro m V V1 Y G ⟨A, c, rfl, h1, h2, h3, h4, h5, h6⟩ tt hn
   exact ⟨A, c, rfl, h1.touch tt (hn _ (by simp)), h2.touch tt (hn _ (by simp)), h3.touch tt (hn _ (by simp)), h4.touch tt (hn _ (by simp)), tt.row h5 (fun q hq => hn q (by simp [hq])), h6⟩)
  (by
   rintro k V V1 Y G ⟨h1, A, c, m, h2, h3, rfl, h5, h6, h7, h8⟩ tt hn
   exact ⟨h1, A, c, m, h2, h3, rfl, h5.touch tt (hn _ (by simp)), h6.touch tt (hn _ (by simp)), h7.touch tt (hn _ (by simp)), tt.row h8 (fun q hq => hn q (by simp [hq]))⟩)
  (fun x => { tmps := #[.pointer p, .string f, .string t, .int .i64 n, undef, undef, undef, .pointer (some ⟨W.heap.size, 0, none⟩), .pointer (some ⟨W.heap.size + 1, 0, none⟩), .pointer (some ⟨W.heap.size + 1 + 1, 0, none⟩), .pointer (some ⟨W.heap.size + 1 + 1 + 1, 0, none⟩), .string x.1, .string x.2, .pointer p, .string f, .string t, .func (.func 190) #[] #[.pointer (some ⟨a0, 0, none⟩), .pointer (some ⟨a1, 0, none⟩), .pointer (some ⟨a2, 0, none⟩)], .string x.1, .string x.2, undef, undef, undef, undef, undef, undef, undef, undef, undef, undef, undef, undef, undef, undef, undef], defers := [] })
  ?assign ?body ?done ?stop
 case assign =>
  intro lp x V K hK
  gi_wp2
  exact hK
 case body =>
  rintro lp m ⟨xk, xv⟩ V Y hV hx ⟨A, c, rfl, h1, h2, h3, h4, h5, h6⟩ hY
  have hm1 := (List.getElem?_eq_some_iff.1 hx).1
  have hm : m < 200 := by
   have := HX.out
   omega
  have htk : (yae l f t).take (m + 1) = (yae l f t).take m ++ [(xk, xv)] := by rw [List.take_add_one, hx]; rfl
  have hnx : ycb (yae l f t) m = xk := by rw [ycb, hx]
  have HNX := Lib.hid hnx
  have c1 := h1.val
  have c2 := h2.val
  have f2 := h2.free
  have c3 := h3.val
  have f3 := h3.free
  have c4 := h4.val
  have f4 := h4.free
  have H1 := Lib.hid h1
  have H2 := Lib.hid h2
  have H3 := Lib.hid h3
  have H4 := Lib.hid h4
  have HR := Lib.hid h5
  have HTK := Lib.hid htk
  have HY := Lib.hid hY
  have hsz : W2.heap.size ≤ V.heap.size := hV
  have HN : Hid (∀ q, q < W2.heap.size → q ∉ (Value.slice A m c).ownBlock.toList) := fun q hq z => by
   have := (HR.out.lt q (by simpa using z)).1
   omega
  clear h1 h2 h3 h4 h5 htk hY hx hnx
  by_cases hlt : (m : Int) < n
  ·have t1 : decide ((m : Int) < n) = true := by simpa using hlt
   gi_wp2_with (gi_at_builtin; refine yko rfl (.tmp 25) (.tmp 29) 22 rfl W2.heap.size 96 i0 (.agg #[.string ⟨#[]⟩, .string ⟨#[]⟩]) 2 32 Tryz.underlying22 hi0 hz0 hs0 hb0 rfl (by decide) (.slice A m c) m (yaa ((yae l f t).take m)) rfl (HR.out.alloc _) (.slice (some ⟨V.heap.size, 0, none⟩) 1 1) 1 (yaa [(xk, xv)]) rfl (yg0 _ _ xk xv (heap_alloc_new _ _)) (ybc _) (by unfold maxLen; omega) (by omega) (by simp; omega) ?_; intro A3 c3' w3 ho3 hg3 hs3; have tt : Touch (Value.slice A m c).ownBlock.toList V w3 := ((Touch.refl _ V).alloc _).grown hg3 (fun k hk => .inl (by simp [hk])); have HTT := Lib.hid tt; have c2 := (H2.out.touch tt (HN.out _ (by omega))).val; have f2 := (H2.out.touch tt (HN.out _ (by omega))).free; have HO3 := Lib.hid ho3; have HS3 := Lib.hid hs3; clear tt ho3 hg3 hs3)
   obtain ⟨z1, z2, z3, z4, z5, z6⟩ := yyh (by omega) HBB.out H1.out H2.out H3.out H4.out HR.out HTT.out HO3.out HS3.out
   exact ⟨_, z1, A3, c3', rfl, z2, z3, z4, z5, by rw [HTK.out, yc0]; exact z6, by omega⟩
  ·have t1 : decide ((m : Int) < n) = false := by simpa using hlt
   gi_wp2
   refine ⟨_, ⟨⟨[W.heap.size + 2, W.heap.size + 3], ((Touch.refl _ _).set (.inl (by simp)) _).set (.inl (by simp)) _, fun q hq => ⟨by simp at hq; simp; omega, fun y => by have := HBB.out q y; simp at hq; omega⟩⟩, fun q hq => ⟨by simpa [World.setCell] using HY.out q hq, .inl hq⟩⟩, rfl, A, c, m, by omega, hm1, rfl, (H2.out.other (by omega) _ _).other (by omega) _ _, (H3.out.set _).other (by omega) _ _, by rw [HNX.out]; exact (H4.out.other (by omega) _ _).set _, ?_⟩
   exact (((Touch.refl [W.heap.size + 2, W.heap.size + 3] _).set (.inl (by simp)) _).set (.inl (by simp)) _).row HR.out (fun q hq z => by
    have := (HR.out.lt q hq).1
    simp at z
    omega)
 case done =>
  rintro D V Y hD hDn hL ⟨A, c, rfl, h1, h2, h3, h4, h5, h6⟩ hK
  obtain ⟨S, hS⟩ : ∃ S, S = (((V.setCell ⟨W.heap.size + 1, 0, none⟩ (.slice A (yae l f t).length c)).setCell ⟨W.heap.size + 1 + 1, 0, none⟩ (.bool false)).setCell ⟨W.heap.size + 1 + 1 + 1, 0, none⟩ (.string ⟨#[]⟩)).drew := ⟨_, rfl⟩
  obtain ⟨k1, k2, k3, k4, k5, k6⟩ := ype hS (by omega) hD (fun z => hDn (List.mem_append_right _ z)) h2 h3 h4 h5 hK
  have hB := Left.new HB.out hL (by simp)
  have HD : Hid (Below W.heap.size W (S.putObj D (.deferred none))) := (Touch.acc hB k6 (by simp)).trans (belowK_b (w := W) (Nat.le_refl _) S D _ _ (by omega) k1 rfl rfl)
  have e : (yae l f t).take n.toNat = (yae l f t).take (yae l f t).length := by rw [List.take_of_length_le h6, List.take_length]
  have HE : Hid ((yae l f t).take n.toNat = yae l f t ∧ decide (n.toNat < (yae l f t).length) = false ∧ ycb (yae l f t) n.toNat = ⟨#[]⟩) := ⟨by rw [e, List.take_length], by simpa using h6, by rw [ycb, List.getElem?_eq_none h6]⟩
  rw [List.take_length] at k5
  have c2 := h2.val
  have f2 := h2.free
  have c3 := h3.val
  have f3 := h3.free
  have c4 := h4.val
  have f4 := h4.free
  have HSS := Lib.hid hS
  have K1 := Lib.hid k1
  have K2 := Lib.hid k2
  have K3 := Lib.hid k3
  have K4 := Lib.hid k4
  have K5 := Lib.hid k5
  clear hS k1 k2 k3 k4 k5 k6 hL h1 h2 h3 h4 h5 h6 hK hB e
  gi_wp2
  refine wpIn_wide.2 ?_
  go_region
  rw [← HSS.out]
  gi_wp2
  refine ⟨by simp, .inl ⟨_, _, rfl, run_takeDeferred K1.out, ?_⟩⟩
  have c2 := K2.out
  have c3 := K3.out
  have c4 := K4.out
  refine ⟨.tuple #[.slice A (yae l f t).length c, .bool false, .string ⟨#[]⟩], ?_, A, c, ?_, ?_, HD.out⟩
  ·simp [results, Tryz.results143, go_sem, c2, c3, c4]
  ·rw [HE.out.1, HE.out.2.1, HE.out.2.2]
  ·rw [HE.out.1]; exact ybp K5.out HB.out.size
 case stop =>
  rintro D k V Y hD hDn hL ⟨rfl, A, c, m, h2, h3, rfl, h5, h6, h7, h8⟩ hK
  obtain ⟨S, hS⟩ : ∃ S, S = (((V.setCell ⟨W.heap.size + 1, 0, none⟩ (.slice A m c)).setCell ⟨W.heap.size + 1 + 1, 0, none⟩ (.bool true)).setCell ⟨W.heap.size + 1 + 1 + 1, 0, none⟩ (.string (ycb (yae l f t) m))).drew := ⟨_, rfl⟩
  obtain ⟨k1, k2, k3, k4, k5, k6⟩ := ype hS (by omega) hD (fun z => hDn (List.mem_append_right _ z)) h5 h6 h7 h8 hK
  have hB := Left.new HB.out hL (by simp)
  have HD : Hid (Below W.heap.size W (S.putObj D (.deferred none))) := (Touch.acc hB k6 (by simp)).trans (belowK_b (w := W) (Nat.le_refl _) S D _ _ (by omega) k1 rfl rfl)
  have HE : Hid (n.toNat = m ∧ ((yae l f t).take m).length = m ∧ decide (m < (yae l f t).length) = true) := ⟨h2.symm, by rw [List.length_take]; omega, by simpa using h3⟩
  have c2 := h5.val
  have f2 := h5.free
  have c3 := h6.val
  have f3 := h6.free
  have c4 := h7.val
  have f4 := h7.free
  have HSS := Lib.hid hS
  have K1 := Lib.hid k1
  have K2 := Lib.hid k2
  have K3 := Lib.hid k3
  have K4 := Lib.hid k4
  have K5 := Lib.hid k5
  clear hS k1 k2 k3 k4 k5 k6 hL h2 h3 h5 h6 h7 h8 hK hB
  gi_wp2
  refine wpIn_wide.2 ?_
  go_region
  rw [← HSS.out]
  gi_wp2
  refine ⟨by simp, .inl ⟨_, _, rfl, run_takeDeferred K1.out, ?_⟩⟩
  have c2 := K2.out
  have c3 := K3.out
  have c4 := K4.out
  refine ⟨.tuple #[.slice A m c, .bool true, .string (ycb (yae l f t) m)], ?_, A, c, ?_, ?_, HD.out⟩
  ·simp [results, Tryz.results143, go_sem, c2, c3, c4]
  ·rw [HE.out.1, HE.out.2.1, HE.out.2.2]
  ·rw [HE.out.1, HE.out.2.1]; exact ybp K5.out HB.out.size
end Go.Proofs.YtnjodhglbapnlaaGreat
