/-
  The walk of a node's join.
-/
import Derived.Test.YtojiblhaiokdcaaNodeSplit
import Derived.Test.YtojiblhaiokdcaaAppendAny
namespace Go.Proofs.Ytojiblhaiokdcaa
open Go.RowKit

theorem NdX.eq {W : World} {g : Nat} {its its' : List Item} {ps ps' : List Nat} {v u v' u' : Value} (h : NdX W g its ps v u) (k : NdX W g its' ps' v' u') : v = v' ∧ u = u' :=
  ⟨Option.some.inj (h.c0.symm.trans k.c0), Option.some.inj (h.c1.symm.trans k.c1)⟩
/-- two nodes of a store have no block in common -/
theorem Sto.apart {W : World} {m : NMap} {F : List Nat} (h : Sto W m F) {g g' : Nat} {nd nd' : Nd} (hm : m g = some nd) (hm' : m g' = some nd') (hne : g ≠ g') {v u v' u' : Value} (hn : NdX W g nd.its nd.ps v u) (hn' : NdX W g' nd'.its nd'.ps v' u') :
    g' ∉ blocks v u ∧ ∀ q, q ∈ blocks v u → q ∉ blocks v' u' := by
  obtain ⟨vs, us, h1, h2, h3⟩ := h
  obtain ⟨rfl, rfl⟩ := hn.eq (h1 g nd hm).1
  obtain ⟨rfl, rfl⟩ := hn'.eq (h1 g' nd' hm').1
  exact h2 g nd g' nd' hm hm' hne
theorem grown_same {a b c : World} {v v' : Value} (h : a.grownBy b v.ownBlock) (hs : SameOrNew a v v') (k : b.grownBy c v'.ownBlock) : a.grownBy c v.ownBlock :=
  ⟨k.os.trans h.os, k.tape.trans h.tape, k.output.trans h.output, Nat.le_trans h.size k.size, fun i hi hn => (k.block i (Nat.lt_of_lt_of_le hi h.size) (fun e => by
    rcases hs i e.symm with e2 | e2
    · exact hn e2.symm
    · omega)).trans (h.block i hi hn)⟩
theorem SameOrNew.trans {a b : World} {v v' v'' : Value} (h : SameOrNew a v v') (hs : a.heap.size ≤ b.heap.size) (k : SameOrNew b v' v'') : SameOrNew a v v'' := fun q hq => by
  rcases k q hq with e | e
  · exact h q e
  · exact .inr (Nat.le_trans hs e)

theorem joinItems (ia ib : List Item) (x : Item) : (itemCells ia ++ itemCells [x]) ++ itemCells ib = itemCells (ia ++ x :: ib) := by
  rw [← itemCells_append, ← itemCells_append, List.append_assoc]; rfl
theorem join_set0 {W V w1 w2 : World} {a : Nat} {ia ib : List Item} {pa : List Nat} {va ua v1 v2 : Value} {x : Item} (hN : NdX W a ia pa va ua) (T : Touch [] W V) (hg1 : V.grownBy w1 va.ownBlock) (hs1 : SameOrNew V va v1) (hg2 : w1.grownBy w2 v1.ownBlock) (hs2 : SameOrNew w1 v1 v2)
    (ho2 : w2.ownsRow 0 39 2 v2 (ia.length + 1 + ib.length) ((itemCells ia ++ itemCells [x]) ++ itemCells ib)) : Set0 W w2 a (ia ++ x :: ib) pa va ua v2 := by
  rw [joinItems] at ho2
  have e : (ia ++ x :: ib).length = ia.length + 1 + ib.length := by rw [List.length_append, List.length_cons]; omega
  exact (Set0.of (hN.new T) (grown_same hg1 hs1 hg2) (by rw [e]; exact ho2) (hs1.trans hg1.size hs2)).from T
/-- node a turned alone: its items -/
def Mid (W wx : World) (a : Nat) (its : List Item) (ps : List Nat) (va ua : Value) : Prop :=
  ∃ A c n, NdX wx a its ps (.slice A n c) ua ∧ Touch (a :: blocks va ua) W wx ∧ ∀ q, q ∈ blocks (.slice A n c) ua → q ∈ blocks va ua ∨ W.heap.size ≤ q
theorem Set0.mid {W w1 : World} {g n c : Nat} {A : Option Addr} {its' : List Item} {ps : List Nat} {v0 u0 : Value} (h : Set0 W w1 g its' ps v0 u0 (.slice A n c)) : Mid W (w1.setCell ⟨g, 0, none⟩ (.slice A n c)) g its' ps v0 u0 := ⟨A, c, n, h.nd, h.t, h.b⟩
theorem Mid.then {W V w2 : World} {g : Nat} {its : List Item} {ps' : List Nat} {v0 u0 v' u' : Value} (h : Touch (g :: blocks v0 u0) W V) (hb : ∀ q, q ∈ blocks v' u0 → q ∈ blocks v0 u0 ∨ W.heap.size ≤ q) (k : Set1 V w2 g its ps' v' u0 u') :
    Touch (g :: blocks v0 u0) W (w2.setCell ⟨g, 1, none⟩ u') ∧ ∀ q, q ∈ blocks v' u' → q ∈ blocks v0 u0 ∨ W.heap.size ≤ q := by
  refine ⟨h.trans k.t (fun x hx => ?_), fun q hq => ?_⟩
  · rcases List.mem_cons.1 hx with e | e
    · exact .inl (by rw [e]; simp)
    · rcases hb x e with e2 | e2
      · exact .inl (List.mem_cons_of_mem _ e2)
      · exact .inr e2
  · rcases k.b q hq with e | e
    · exact hb q e
    · exact .inr (Nat.le_trans h.size e)
set_option maxRecDepth 100000 in
set_option maxHeartbeats 8000000 in
theorem join_any (g i a b : Nat) {its ia ib : List Item} {ps pa pb : List Nat} {m : NMap} {F : List Nat} (x : Item) (W : World) (h : Sto W m F) (hg : m g = some ⟨its, ps⟩) (ha : m a = some ⟨ia, pa⟩) (hb : m b = some ⟨ib, pb⟩) (hab : a ≠ b) (hag : a ≠ g)
    (hi : i < its.length) (hp : i + 1 < ps.length) (hpa : ps[i]? = some a) (hpb : ps[i + 1]? = some b) (hx : its[i]? = some x) (l1 : its.length ≤ 300) (l2 : ps.length ≤ 300) (l3 : ia.length ≤ 300) (l4 : pa.length ≤ 300) (l5 : ib.length ≤ 300) (l6 : pb.length ≤ 300) :
    Calls Try.prog 68 #[ptr g, .int .i64 (i : Nat)] W (StoPost W F (upd (upd m a ⟨ia ++ x :: ib, pa ++ pb⟩) g ⟨remAt its i, remAt ps (i + 1)⟩) (.tuple #[])) := by
  have HSW := Lib.hid h
  have HM : Hid (m g = some ⟨its, ps⟩ ∧ m a = some ⟨ia, pa⟩ ∧ m b = some ⟨ib, pb⟩) := ⟨hg, ha, hb⟩
  obtain ⟨vg, ug, hNg, -, -⟩ := h.at hg
  have hNg : NdX W g its ps vg ug := hNg
  obtain ⟨q2, dg, rfl, hq3, hq4⟩ := row_at hNg.r1 (by omega)
  have g1 := hNg.c1
  have ca : W.cell? ⟨q2, i, none⟩ = some (.pointer (some ⟨a, 0, none⟩)) := by
    rw [hNg.r1.cellAt i (by omega), ptrCells, List.getElem?_map, hpa]; rfl
  have cb : W.cell? ⟨q2, i + 1, none⟩ = some (.pointer (some ⟨b, 0, none⟩)) := by
    rw [hNg.r1.cellAt (i + 1) (by omega), ptrCells, List.getElem?_map, hpb]; rfl
  obtain ⟨n2, hl2⟩ : ∃ n, ps.length = n := ⟨_, rfl⟩
  rw [hl2] at g1
  have i2 : (i : Int) < (n2 : Int) := by omega
  have i3 : (i : Int) + 1 < (n2 : Int) := by omega
  have i4 : IntKind.i64.wrap ((i : Int) + 1) = (i : Int) + 1 := by rw [IntKind.wrap_i64]; omega
  have i5 : (0 : Int) ≤ (i : Int) + 1 := by omega
  have i6 : ((i : Int) + 1).toNat = i + 1 := by omega
  clear hNg h hq3 hq4 hg ha hb hl2
  unfold ptr at *
  go_enter Try.func68, Try.ntmps68
  go_upto_region 0 with fail
  go_cut [4, 5] (fun s4 s5 wx => s4 = .pointer (some ⟨a, 0, none⟩) ∧ s5 = .pointer (some ⟨b, 0, none⟩) ∧ Hid (∃ n, wx = W.drewN n))
  case first =>
    go_wp2
    go_quiet (fail)
    go_wp2
    go_meet
    exact ⟨rfl, rfl, _, rfl⟩
  case rest =>
    obtain ⟨rfl, rfl, HW⟩ := hcut
    obtain ⟨V, rfl⟩ : ∃ V : World, V = wc := ⟨_, rfl⟩
    have HVW : Hid (Touch [] W V ∧ Sto V m F) := by
      obtain ⟨k, rfl⟩ := HW.out
      exact ⟨(Touch.refl _ _).drewN _, HSW.out.drewN _⟩
    clear g1 ca cb i2 i3 i4 i5 i6 HW HSW
    have h := HVW.out.2
    obtain ⟨hg, ha, hb⟩ := HM.out
    obtain ⟨vg, ug, hNg, -, -⟩ := h.at hg
    obtain ⟨va, ua, hNa, -, hT⟩ := h.at ha
    obtain ⟨vb, ub, hNb, -, -⟩ := h.at hb
    have hNg : NdX V g its ps vg ug := hNg
    have hNa : NdX V a ia pa va ua := hNa
    have hNb : NdX V b ib pb vb ub := hNb
    have d1 := h.apart ha hb hab hNa hNb
    have d2 := h.apart ha hg hag hNa hNg
    have d1' : ∀ q, q ∈ blocks vb ub → q ≠ a := fun q hq e => (h.apart hb ha (fun e => hab e.symm) hNb hNa).1 (e ▸ hq)
    obtain ⟨q, cg, rfl, hq1, hq2⟩ := row_at hNg.r0 (by omega)
    have g0 := hNg.c0
    have hga := hNg.lt
    have hq5 : q < V.heap.size := (hNg.r0.lt q rfl).2
    have a0 := hNa.c0
    have b0 := hNb.c0
    have hal := hNa.lt
    have hbl := hNb.lt
    have hx' : its[i] = x := by rw [List.getElem?_eq_getElem hi] at hx; exact Option.some.inj hx
    have ck := (hNg.r0.cellAt (i * 2) (by omega)).trans (itemCells_get0 its i hi)
    have cv := (hNg.r0.cellAt (i * 2 + 1) (by omega)).trans (itemCells_get1 its i hi)
    rw [hx'] at ck cv
    obtain ⟨xk, xv⟩ := x
    obtain ⟨n, hl⟩ : ∃ n, its.length = n := ⟨_, rfl⟩
    rw [hl] at g0 hq1
    have i1 : (i : Int) < (n : Int) := by omega
    obtain ⟨i0, hi0, hz0, hs0, hb0⟩ := infoItems
    obtain ⟨j0, hj0, kz0, ks0, kb0⟩ := infoNodes
    have HA := Lib.hid hNa
    have HB := Lib.hid hNb
    have HT := Lib.hid hT
    have HD : Hid (b ∉ blocks va ua ∧ (∀ q, q ∈ blocks vb ub → q ∉ blocks va ua) ∧ b ∉ a :: blocks va ua) := ⟨d1.1, fun q h1 h2 => d1.2 q h2 h1, by
      rw [List.mem_cons]; rintro (e | e)
      · exact hab e.symm
      · exact d1.1 e⟩
    have HONE : Hid (∀ Wc : World, Wc.heap[V.heap.size]? = some (.cells #[.string xk, .string xv] 39 (0, 0)) → From Wc 2 (.slice (some ⟨V.heap.size, 0, none⟩) 1 1) 1 (itemCells [(xk, xv)])) := fun Wc hh =>
      .inr ⟨_, _, rfl, rfl, fun j u hj => by rw [Go.WideShapes.add_plain, Nat.zero_add, cell_of_row Wc V.heap.size j _ 39 (0, 0) hh]; simpa [itemCells] using hj⟩
    have HI : Hid (i < its.length ∧ i + 1 < ps.length ∧ ps[i]? = some a ∧ ps[i + 1]? = some b) := ⟨hi, hp, hpa, hpb⟩
    clear hNg hNa hNb hT h hg ha hb hpa hpb hx hx' d1 d2 hq1 hq2 hi hp hl
    go_upto_region 1 with fail
    go_cut [21] (fun s21 wx => s21 = .pointer (some ⟨a, 0, none⟩) ∧ Hid (Mid V wx a (ia ++ (xk, xv) :: ib) pa va ua))
    case first =>
      go_region_law (first
        | (refine step_append_any rfl (.tmp 25) (.tmp 33) 22 rfl 0 39 i0 (.agg #[.string ⟨#[]⟩, .string ⟨#[]⟩]) 2 32 Try.underlying22 hi0 hz0 hs0 hb0 rfl (by decide) va ia.length (itemCells ia) (by simp [Act.eval]) (HA.out.new (((Touch.refl _ _).alloc _).drew)).r0 (.slice (some ⟨V.heap.size, 0, none⟩) 1 1) 1 (itemCells [(xk, xv)]) (by simp [Act.eval]) (HONE.out _ (heap_new1 _ _)) (items_one _) (by unfold maxLen; omega) (by omega) (Nat.zero_le _) ?_; intro A1 c1 w1 ho1 hg1 hs1; have hT1 : Touch (blocks va ua) V w1 := ((((Touch.refl [] V).alloc _).drew).mono (by simp)).grown hg1 (fun k hk => .inl (mem_blocks.2 (.inl hk))); have b0' := (hT1.cell (p := ⟨b, 0, none⟩) hbl HD.out.1).trans b0; have HB1 := Lib.hid (HB.out.touch hT1 HD.out.1 HD.out.2.1); have HG1 := Lib.hid hg1; have HO1 := Lib.hid ho1; have HS1 := Lib.hid hs1; clear hg1 ho1 hs1 hT1)
        | (refine step_append_any rfl (.tmp 34) (.tmp 38) 22 rfl 0 39 i0 (.agg #[.string ⟨#[]⟩, .string ⟨#[]⟩]) 2 32 Try.underlying22 hi0 hz0 hs0 hb0 rfl (by decide) (.slice A1 (ia.length + 1) c1) (ia.length + 1) (itemCells ia ++ itemCells [(xk, xv)]) (by simp [Act.eval]) HO1.out vb ib.length (itemCells ib) (by simp [Act.eval]) (From.own HB1.out.r0) (items_one _) (by unfold maxLen; omega) (by omega) (Nat.zero_le _) ?_; intro A2 c2 w2 ho2 hg2 hs2; have hS := join_set0 HA.out (((Touch.refl _ _).alloc _).drew) HG1.out HS1.out hg2 hs2 ho2; have sc := hS.c; have sf := hS.f; have HS0 := Lib.hid hS; clear ho2 hg2 hs2 hS))
      all_goals
        go_wp2_with fail
        go_meet
        exact ⟨rfl, HS0.out.mid⟩
    case rest =>
      obtain ⟨rfl, HMid⟩ := hcut
      obtain ⟨wd, rfl⟩ : ∃ wd : World, wd = wc := ⟨_, rfl⟩
      obtain ⟨A1, c1, n1, hMN, hMT, hMB⟩ := HMid.out
      have hB2 := HB.out.touch hMT HD.out.2.2 (fun q hq e => by
        rcases List.mem_cons.1 e with e2 | e2
        · exact d1' q hq e2
        · exact HD.out.2.1 q hq e2)
      have a1 := hMN.c1
      have fa1 := hMN.f1
      have b1 := hB2.c1
      have HMN := Lib.hid hMN
      have HMT := Lib.hid hMT
      have HMB := Lib.hid hMB
      have HB2 := Lib.hid hB2
      have CR : Hid (∀ V2 F2, Sto V2 (upd m a ⟨ia ++ (xk, xv) :: ib, pa ++ pb⟩) F2 → Calls Try.prog 60 #[.pointer (some ⟨g, 0, none⟩), .int .i64 (i : Nat)] V2 (StoPost V2 F2 (upd (upd m a ⟨ia ++ (xk, xv) :: ib, pa ++ pb⟩) g ⟨remAt its i, remAt ps (i + 1)⟩) (.tuple #[]))) :=
        fun V2 F2 hS2 => remove_above g i V2 hS2 (by rw [upd_other _ _ (fun e => hag e.symm)]; exact HM.out.1) HI.out.1 (by omega) HI.out.2.1 (by omega)
      clear hMN hMT hMB hB2 HMid g0 a0 b0 ck cv i1 HA HB hq5 hga
      go_upto_region 2 with fail
      go_region_law (refine step_append_any rfl (.tmp 46) (.tmp 50) 93 rfl 0 63 j0 (.pointer none) 1 8 Try.underlying93 hj0 kz0 ks0 kb0 rfl (by decide) ua pa.length (ptrCells pa) (by simp [Act.eval]) HMN.out.drew.r1 ub pb.length (ptrCells pb) (by simp [Act.eval]) (From.own HB2.out.drew.r1) (ptr_one _) (by unfold maxLen; omega) (by omega) (Nat.zero_le _) ?_; intro A2 c2 w2 ho2 hg2 hs2; have hS := Set1.of (ps' := pa ++ pb) HMN.out.drew hg2 (by rw [List.length_append, ptrCells, List.map_append]; exact ho2) hs2; have sc := hS.c; have sf := hS.f; have HSt := Lib.hid (HT.out _ _ _ _ _ hS.nd (Mid.then HMT.out.drew HMB.out hS).1 (Mid.then HMT.out.drew HMB.out hS).2); clear ho2 hg2 hs2 hS)
      all_goals
        go_wp2_with (go_at_call 60; ((with_reducible refine (CR.out _ _ HSt.out.1).mono ?_); rintro e w5 ⟨rfl, F3, hS3, hP3⟩; have HS3 := Lib.hid hS3; have HP3 := Lib.hid hP3; clear hS3 hP3))
        go_end0
        exact ⟨rfl, F3, HS3.out, ((Stp.same (HVW.out.1.mono (by simp))).trans HSt.out.2).trans HP3.out⟩
end Go.Proofs.Ytojiblhaiokdcaa
