/-
  The walk of a node's join.
  The walk of a node's mend, over what its join, split and insert leave of a store.
-/
import Derived.Test.YthgndgoljchnfaaGreatHg18
import Derived.Test.YthgndgoljchnfaaGreatHg05
namespace Go.Proofs.YthgndgoljchnfaaGreat
open Go.RowKit

theorem NdX.eq {W : World} {g : Nat} {its its' : List Item} {ps ps' : List Nat} {v u v' u' : Value} (h : NdX W g its ps v u) (k : NdX W g its' ps' v' u') : v = v' ∧ u = u' :=
  ⟨Option.some.inj (h.c0.symm.trans k.c0), Option.some.inj (h.c1.symm.trans k.c1)⟩
/-- two nodes of a store have no block in common -/
theorem Sto.apart {W : World} {m : NMap} {F : List Nat} (h : Sto W m F) {g g' : Nat} {nd nd' : Nd} (hm : m g = some nd) (hm' : m g' = some nd') (hne : g ≠ g') {v u v' u' : Value} (hn : NdX W g nd.its nd.ps v u) (hn' : NdX W g' nd'.its nd'.ps v' u') :
    g' ∉ blocks v u ∧ ∀ q, q ∈ blocks v u → q ∉ blocks v' u' := by
  obtain ⟨vs, us, h1, h2, h3⟩ := h
  obtain ⟨rfl, rfl⟩ := hn.eq (h1 g nd hm).1
  obtain ⟨rfl, rfl⟩ := hn'.eq (h1 g' nd' hm').1
  exact h2 g nd g' nd' hm hm' hne
theorem grown_same {a b c : World} {v v' : Value} (h : a.grownBy b v.ownBlock) (hs : SameOrNew a v v') (k : b.grownBy c v'.ownBlock) : a.grownBy c v.ownBlock :=
  ⟨k.os.trans h.os, k.tape.trans h.tape, k.output.trans h.output, Nat.le_trans h.size k.size, fun i hi hn => (k.block i (Nat.lt_of_lt_of_le hi h.size) (fun e => by
    rcases hs i e.symm with e2 | e2
    · exact hn e2.symm
    · omega)).trans (h.block i hi hn)⟩
theorem SameOrNew.trans {a b : World} {v v' v'' : Value} (h : SameOrNew a v v') (hs : a.heap.size ≤ b.heap.size) (k : SameOrNew b v' v'') : SameOrNew a v v'' := fun q hq => by
  rcases k q hq with e | e
  · exact h q e
  · exact .inr (Nat.le_trans hs e)

theorem joinItems (ia ib : List Item) (x : Item) : (itemCells ia ++ itemCells [x]) ++ itemCells ib = itemCells (ia ++ x :: ib) := by
  rw [← itemCells_append, ← itemCells_append, List.append_assoc]; rfl
theorem join_set0 {W V w1 w2 : World} {a : Nat} {ia ib : List Item} {pa : List Nat} {va ua v1 v2 : Value} {x : Item} (hN : NdX W a ia pa va ua) (T : Touch [] W V) (hg1 : V.grownBy w1 va.ownBlock) (hs1 : SameOrNew V va v1) (hg2 : w1.grownBy w2 v1.ownBlock) (hs2 : SameOrNew w1 v1 v2)
    (ho2 : w2.ownsRow 0 31 2 v2 (ia.length + 1 + ib.length) ((itemCells ia ++ itemCells [x]) ++ itemCells ib)) : Set0 W w2 a (ia ++ x :: ib) pa va ua v2 := by
  rw [joinItems] at ho2
  have e : (ia ++ x :: ib).length = ia.length + 1 + ib.length := by rw [List.length_append, List.length_cons]; omega
  exact (Set0.of (hN.new T) (grown_same hg1 hs1 hg2) (by rw [e]; exact ho2) (hs1.trans hg1.size hs2)).from T
/-- node a turned alone: its items -/
def Mid (W wx : World) (a : Nat) (its : List Item) (ps : List Nat) (va ua : Value) : Prop :=
  ∃ A c n, NdX wx a its ps (.slice A n c) ua ∧ Touch (a :: blocks va ua) W wx ∧ ∀ q, q ∈ blocks (.slice A n c) ua → q ∈ blocks va ua ∨ W.heap.size ≤ q
theorem Set0.mid {W w1 : World} {g n c : Nat} {A : Option Addr} {its' : List Item} {ps : List Nat} {v0 u0 : Value} (h : Set0 W w1 g its' ps v0 u0 (.slice A n c)) : Mid W (w1.setCell ⟨g, 0, none⟩ (.slice A n c)) g its' ps v0 u0 := ⟨A, c, n, h.nd, h.t, h.b⟩
theorem Mid.then {W V w2 : World} {g : Nat} {its : List Item} {ps' : List Nat} {v0 u0 v' u' : Value} (h : Touch (g :: blocks v0 u0) W V) (hb : ∀ q, q ∈ blocks v' u0 → q ∈ blocks v0 u0 ∨ W.heap.size ≤ q) (k : Set1 V w2 g its ps' v' u0 u') :
    Touch (g :: blocks v0 u0) W (w2.setCell ⟨g, 1, none⟩ u') ∧ ∀ q, q ∈ blocks v' u' → q ∈ blocks v0 u0 ∨ W.heap.size ≤ q := by
  refine ⟨h.trans k.t (fun x hx => ?_), fun q hq => ?_⟩
  · rcases List.mem_cons.1 hx with e | e
    · exact .inl (by rw [e]; simp)
    · rcases hb x e with e2 | e2
      · exact .inl (List.mem_cons_of_mem _ e2)
      · exact .inr e2
  · rcases k.b q hq with e | e
    · exact hb q e
    · exact .inr (Nat.le_trans h.size e)
set_option maxRecDepth 100000 in
set_option maxHeartbeats 8000000 in
theorem nodeJoin_any (g i a b : Nat) {its ia ib : List Item} {ps pa pb : List Nat} {m : NMap} {F : List Nat} (x : Item) (W : World) (h : Sto W m F) (hg : m g = some ⟨its, ps⟩) (ha : m a = some ⟨ia, pa⟩) (hb : m b = some ⟨ib, pb⟩) (hab : a ≠ b) (hag : a ≠ g)
    (hi : i < its.length) (hp : i + 1 < ps.length) (hpa : ps[i]? = some a) (hpb : ps[i + 1]? = some b) (hx : its[i]? = some x) (l1 : its.length ≤ 300) (l2 : ps.length ≤ 300) (l3 : ia.length ≤ 300) (l4 : pa.length ≤ 300) (l5 : ib.length ≤ 300) (l6 : pb.length ≤ 300) :
    Calls Tryz.prog 134 #[ptr g, .int .i64 (i : Nat)] W (StoPost W F (upd (upd m a ⟨ia ++ x :: ib, pa ++ pb⟩) g ⟨remAt its i, remAt ps (i + 1)⟩) (.tuple #[])) := by
  have HSW := Lib.hid h
  have HM : Hid (m g = some ⟨its, ps⟩ ∧ m a = some ⟨ia, pa⟩ ∧ m b = some ⟨ib, pb⟩) := ⟨hg, ha, hb⟩
  obtain ⟨vg, ug, hNg, -, -⟩ := h.at hg
  have hNg : NdX W g its ps vg ug := hNg
  obtain ⟨q2, dg, rfl, hq3, hq4⟩ := row_at hNg.r1 (by omega)
  have g1 := hNg.c1
  have ca : W.cell? ⟨q2, i, none⟩ = some (.pointer (some ⟨a, 0, none⟩)) := by
    rw [hNg.r1.cellAt i (by omega), ptrCells, List.getElem?_map, hpa]; rfl
  have cb : W.cell? ⟨q2, i + 1, none⟩ = some (.pointer (some ⟨b, 0, none⟩)) := by
    rw [hNg.r1.cellAt (i + 1) (by omega), ptrCells, List.getElem?_map, hpb]; rfl
  obtain ⟨n2, hl2⟩ : ∃ n, ps.length = n := ⟨_, rfl⟩
  rw [hl2] at g1
  have i2 : (i : Int) < (n2 : Int) := by omega
  have i3 : (i : Int) + 1 < (n2 : Int) := by omega
  have i4 : IntKind.i64.wrap ((i : Int) + 1) = (i : Int) + 1 := by rw [IntKind.wrap_i64]; omega
  have i5 : (0 : Int) ≤ (i : Int) + 1 := by omega
  have i6 : ((i : Int) + 1).toNat = i + 1 := by omega
  clear hNg h hq3 hq4 hg ha hb hl2
  unfold ptr at *
  go_enter Tryz.func134, Tryz.ntmps134
  go_upto_region 0 with fail
  go_cut [4, 5] (fun s4 s5 wx => s4 = .pointer (some ⟨a, 0, none⟩) ∧ s5 = .pointer (some ⟨b, 0, none⟩) ∧ Hid (∃ n, wx = W.drewN n))
  case first =>
    go_wp2
    go_quiet (fail)
    go_wp2
    go_meet
    exact ⟨rfl, rfl, _, rfl⟩
  case rest =>
    obtain ⟨rfl, rfl, HW⟩ := hcut
    obtain ⟨V, rfl⟩ : ∃ V : World, V = wc := ⟨_, rfl⟩
    have HVW : Hid (Touch [] W V ∧ Sto V m F) := by
      obtain ⟨k, rfl⟩ := HW.out
      exact ⟨(Touch.refl _ _).drewN _, HSW.out.drewN _⟩
    clear g1 ca cb i2 i3 i4 i5 i6 HW HSW
    have h := HVW.out.2
    obtain ⟨hg, ha, hb⟩ := HM.out
    obtain ⟨vg, ug, hNg, -, -⟩ := h.at hg
    obtain ⟨va, ua, hNa, -, hT⟩ := h.at ha
    obtain ⟨vb, ub, hNb, -, -⟩ := h.at hb
    have hNg : NdX V g its ps vg ug := hNg
    have hNa : NdX V a ia pa va ua := hNa
    have hNb : NdX V b ib pb vb ub := hNb
    have d1 := h.apart ha hb hab hNa hNb
    have d2 := h.apart ha hg hag hNa hNg
    have d1' : ∀ q, q ∈ blocks vb ub → q ≠ a := fun q hq e => (h.apart hb ha (fun e => hab e.symm) hNb hNa).1 (e ▸ hq)
    obtain ⟨q, cg, rfl, hq1, hq2⟩ := row_at hNg.r0 (by omega)
    have g0 := hNg.c0
    have hga := hNg.lt
    have hq5 : q < V.heap.size := (hNg.r0.lt q rfl).2
    have a0 := hNa.c0
    have b0 := hNb.c0
    have hal := hNa.lt
    have hbl := hNb.lt
    have hx' : its[i] = x := by rw [List.getElem?_eq_getElem hi] at hx; exact Option.some.inj hx
    have ck := (hNg.r0.cellAt (i * 2) (by omega)).trans (itemCells_get0 its i hi)
    have cv := (hNg.r0.cellAt (i * 2 + 1) (by omega)).trans (itemCells_get1 its i hi)
    rw [hx'] at ck cv
    obtain ⟨xk, xv⟩ := x
    obtain ⟨n, hl⟩ : ∃ n, its.length = n := ⟨_, rfl⟩
    rw [hl] at g0 hq1
    have i1 : (i : Int) < (n : Int) := by omega
    obtain ⟨i0, hi0, hz0, hs0, hb0⟩ := infoItems
    obtain ⟨j0, hj0, kz0, ks0, kb0⟩ := infoNodes
    have HA := Lib.hid hNa
    have HB := Lib.hid hNb
    have HT := Lib.hid hT
    have HD : Hid (b ∉ blocks va ua ∧ (∀ q, q ∈ blocks vb ub → q ∉ blocks va ua) ∧ b ∉ a :: blocks va ua) := ⟨d1.1, fun q h1 h2 => d1.2 q h2 h1, by
      rw [List.mem_cons]; rintro (e | e)
      · exact hab e.symm
      · exact d1.1 e⟩
    have HONE : Hid (∀ Wc : World, Wc.heap[V.heap.size]? = some (.cells #[.string xk, .string xv] 31 (0, 0)) → From Wc 2 (.slice (some ⟨V.heap.size, 0, none⟩) 1 1) 1 (itemCells [(xk, xv)])) := fun Wc hh =>
      .inr ⟨_, _, rfl, rfl, fun j u hj => by rw [Go.WideShapes.add_plain, Nat.zero_add, cell_of_row Wc V.heap.size j _ 31 (0, 0) hh]; simpa [itemCells] using hj⟩
    have HI : Hid (i < its.length ∧ i + 1 < ps.length ∧ ps[i]? = some a ∧ ps[i + 1]? = some b) := ⟨hi, hp, hpa, hpb⟩
    clear hNg hNa hNb hT h hg ha hb hpa hpb hx hx' d1 d2 hq1 hq2 hi hp hl
    go_upto_region 1 with fail
    go_cut [21] (fun s21 wx => s21 = .pointer (some ⟨a, 0, none⟩) ∧ Hid (Mid V wx a (ia ++ (xk, xv) :: ib) pa va ua))
    case first =>
      go_region_law (first
        | (refine step_append_any rfl (.tmp 25) (.tmp 33) 22 rfl 0 31 i0 (.agg #[.string ⟨#[]⟩, .string ⟨#[]⟩]) 2 32 Tryz.underlying22 hi0 hz0 hs0 hb0 rfl (by decide) va ia.length (itemCells ia) (by simp [Act.eval]) (HA.out.new (((Touch.refl _ _).alloc _).drew)).r0 (.slice (some ⟨V.heap.size, 0, none⟩) 1 1) 1 (itemCells [(xk, xv)]) (by simp [Act.eval]) (HONE.out _ (heap_new1 _ _)) (items_one _) (by unfold maxLen; omega) (by omega) (Nat.zero_le _) ?_; intro A1 c1 w1 ho1 hg1 hs1; have hT1 : Touch (blocks va ua) V w1 := ((((Touch.refl [] V).alloc _).drew).mono (by simp)).grown hg1 (fun k hk => .inl (mem_blocks.2 (.inl hk))); have b0' := (hT1.cell (p := ⟨b, 0, none⟩) hbl HD.out.1).trans b0; have HB1 := Lib.hid (HB.out.touch hT1 HD.out.1 HD.out.2.1); have HG1 := Lib.hid hg1; have HO1 := Lib.hid ho1; have HS1 := Lib.hid hs1; clear hg1 ho1 hs1 hT1)
        | (refine step_append_any rfl (.tmp 34) (.tmp 38) 22 rfl 0 31 i0 (.agg #[.string ⟨#[]⟩, .string ⟨#[]⟩]) 2 32 Tryz.underlying22 hi0 hz0 hs0 hb0 rfl (by decide) (.slice A1 (ia.length + 1) c1) (ia.length + 1) (itemCells ia ++ itemCells [(xk, xv)]) (by simp [Act.eval]) HO1.out vb ib.length (itemCells ib) (by simp [Act.eval]) (From.own HB1.out.r0) (items_one _) (by unfold maxLen; omega) (by omega) (Nat.zero_le _) ?_; intro A2 c2 w2 ho2 hg2 hs2; have hS := join_set0 HA.out (((Touch.refl _ _).alloc _).drew) HG1.out HS1.out hg2 hs2 ho2; have sc := hS.c; have sf := hS.f; have HS0 := Lib.hid hS; clear ho2 hg2 hs2 hS))
      all_goals
        go_wp2_with fail
        go_meet
        exact ⟨rfl, HS0.out.mid⟩
    case rest =>
      obtain ⟨rfl, HMid⟩ := hcut
      obtain ⟨wd, rfl⟩ : ∃ wd : World, wd = wc := ⟨_, rfl⟩
      obtain ⟨A1, c1, n1, hMN, hMT, hMB⟩ := HMid.out
      have hB2 := HB.out.touch hMT HD.out.2.2 (fun q hq e => by
        rcases List.mem_cons.1 e with e2 | e2
        · exact d1' q hq e2
        · exact HD.out.2.1 q hq e2)
      have a1 := hMN.c1
      have fa1 := hMN.f1
      have b1 := hB2.c1
      have HMN := Lib.hid hMN
      have HMT := Lib.hid hMT
      have HMB := Lib.hid hMB
      have HB2 := Lib.hid hB2
      have CR : Hid (∀ V2 F2, Sto V2 (upd m a ⟨ia ++ (xk, xv) :: ib, pa ++ pb⟩) F2 → Calls Tryz.prog 120 #[.pointer (some ⟨g, 0, none⟩), .int .i64 (i : Nat)] V2 (StoPost V2 F2 (upd (upd m a ⟨ia ++ (xk, xv) :: ib, pa ++ pb⟩) g ⟨remAt its i, remAt ps (i + 1)⟩) (.tuple #[]))) :=
        fun V2 F2 hS2 => remove_above g i V2 hS2 (by rw [upd_other _ _ (fun e => hag e.symm)]; exact HM.out.1) HI.out.1 (by omega) HI.out.2.1 (by omega)
      clear hMN hMT hMB hB2 HMid g0 a0 b0 ck cv i1 HA HB hq5 hga
      go_upto_region 2 with fail
      go_region_law (refine step_append_any rfl (.tmp 46) (.tmp 50) 150 rfl 0 101 j0 (.pointer none) 1 8 Tryz.underlying150 hj0 kz0 ks0 kb0 rfl (by decide) ua pa.length (ptrCells pa) (by simp [Act.eval]) HMN.out.drew.r1 ub pb.length (ptrCells pb) (by simp [Act.eval]) (From.own HB2.out.drew.r1) (ptr_one _) (by unfold maxLen; omega) (by omega) (Nat.zero_le _) ?_; intro A2 c2 w2 ho2 hg2 hs2; have hS := Set1.of (ps' := pa ++ pb) HMN.out.drew hg2 (by rw [List.length_append, ptrCells, List.map_append]; exact ho2) hs2; have sc := hS.c; have sf := hS.f; have HSt := Lib.hid (HT.out _ _ _ _ _ hS.nd (Mid.then HMT.out.drew HMB.out hS).1 (Mid.then HMT.out.drew HMB.out hS).2); clear ho2 hg2 hs2 hS)
      all_goals
        go_wp2_with (go_at_call 120; ((with_reducible refine (CR.out _ _ HSt.out.1).mono ?_); rintro e w5 ⟨rfl, F3, hS3, hP3⟩; have HS3 := Lib.hid hS3; have HP3 := Lib.hid hP3; clear hS3 hP3))
        go_end0
        exact ⟨rfl, F3, HS3.out, ((Stp.same (HVW.out.1.mono (by simp))).trans HSt.out.2).trans HP3.out⟩
end Go.Proofs.YthgndgoljchnfaaGreat
namespace Go.Proofs.YthgndgoljchnfaaGreat
open Go.RowKit

theorem split_any (g : Nat) {its : List Item} {ps : List Nat} {m : NMap} {F : List Nat} (W : World) (h : Sto W m F) (hm : m g = some ⟨its, ps⟩) (mid : Nat) (hmid : its.length / 2 = mid) (hlo : mid + 1 < its.length) (hn : its.length ≤ 1000) (hp : ps = [] ∨ mid + 1 < ps.length) (hpn : ps.length ≤ 1000) (x : Item) (hx : its[mid]? = some x) :
    Calls Tryz.prog 117 #[ptr g] W fun e w => ∃ b, W.heap.size ≤ b ∧ StoPost W F (upd (upd m g ⟨its.take mid, ps.take (mid + 1)⟩) b ⟨its.drop (mid + 1), ps.drop (mid + 1)⟩) (.tuple #[.agg #[.string x.1, .string x.2], ptr b]) e w := by
  rcases hp with rfl | hp
  · exact split_leaf g W h hm mid hmid hlo hn x hx
  · exact split_above g W h hm mid hmid hlo hn hp hpn x hx

/-- a node and one below it, as a walk reads them -/
theorem Sto.child {W : World} {m : NMap} {F : List Nat} (h : Sto W m F) {g c j n nc : Nat} {its ic : List Item} {ps pc : List Nat} (hg : m g = some ⟨its, ps⟩) (hj : ps[j]? = some c) (hc : m c = some ⟨ic, pc⟩) (hn : ps.length = n) (hnc : ic.length = nc) :
    ∃ q d C e, W.cell? ⟨g, 1, none⟩ = some (.slice (some ⟨q, 0, none⟩) n d) ∧ W.cell? ⟨q, j, none⟩ = some (.pointer (some ⟨c, 0, none⟩)) ∧ W.cell? ⟨c, 0, none⟩ = some (.slice C nc e) := by
  subst hn hnc
  have hjl : j < ps.length := (List.getElem?_eq_some_iff.1 hj).1
  obtain ⟨vg, ug, hNg, -, -⟩ := h.at hg
  obtain ⟨vc, uc, hNc, -, -⟩ := h.at hc
  have hNg : NdX W g its ps vg ug := hNg
  have hNc : NdX W c ic pc vc uc := hNc
  obtain ⟨q2, dg, rfl, -, -⟩ := row_at hNg.r1 (by omega)
  obtain ⟨C, dc, rfl⟩ := own_slice hNc.r0
  refine ⟨q2, dg, C, dc, hNg.c1, ?_, hNc.c0⟩
  rw [hNg.r1.cellAt j (by omega), ptrCells, List.getElem?_map, hj]; rfl
/-- what a mend that joins leaves: the joined node whole, or cut in two -/
def MendPost (W : World) (F : List Nat) (m : NMap) (g a i : Nat) (its J : List Item) (ps P : List Nat) (e : Ending) (w : World) : Prop :=
  e = .returned (.tuple #[]) ∧ ∃ m' F', Sto w m' F' ∧ Stp W F w F' ∧
    ((J.length ≤ 6 ∧ m' = upd (upd m a ⟨J, P⟩) g ⟨remAt its i, remAt ps (i + 1)⟩) ∨
     (6 < J.length ∧ ∃ b y, J[J.length / 2]? = some y ∧ W.heap.size ≤ b ∧
        m' = upd (upd (upd (upd (upd m a ⟨J, P⟩) g ⟨remAt its i, remAt ps (i + 1)⟩) a ⟨J.take (J.length / 2), P.take (J.length / 2 + 1)⟩) b ⟨J.drop (J.length / 2 + 1), P.drop (J.length / 2 + 1)⟩) g ⟨insAt (remAt its i) i y, insAt (remAt ps (i + 1)) (i + 1) b⟩))

set_option maxRecDepth 100000 in
set_option maxHeartbeats 4000000 in
theorem mend_join (g a b j i : Nat) {its ia ib ic : List Item} {ps pa pb pc : List Nat} {m : NMap} {F : List Nat} (x : Item) (c : Nat) (W : World) (h : Sto W m F) (hg : m g = some ⟨its, ps⟩) (ha : m a = some ⟨ia, pa⟩) (hb : m b = some ⟨ib, pb⟩) (hc : m c = some ⟨ic, pc⟩) (hab : a ≠ b) (hag : a ≠ g)
    (hi : i < its.length) (hp : i + 1 < ps.length) (hj : j < ps.length) (hji : j = i + 1 ∨ (j = 0 ∧ i = 0)) (hpa : ps[i]? = some a) (hpb : ps[i + 1]? = some b) (hpc : ps[j]? = some c) (hx : its[i]? = some x) (hic : ic.length < 3) (l1 : its.length ≤ 300) (l2 : ps.length ≤ 300) (l3 : ia.length ≤ 300) (l4 : pa.length ≤ 300) (l5 : ib.length ≤ 300) (l6 : pb.length ≤ 300)
    (hleaf : pa ++ pb = [] ∨ (pa ++ pb).length = (ia ++ x :: ib).length + 1) :
    Calls Tryz.prog 121 #[ptr g, .int .i64 (j : Nat)] W (MendPost W F m g a i its (ia ++ x :: ib) ps (pa ++ pb)) := by
  obtain ⟨J, hJ⟩ : ∃ J, ia ++ x :: ib = J := ⟨_, rfl⟩
  obtain ⟨P, hP⟩ : ∃ P, pa ++ pb = P := ⟨_, rfl⟩
  have CJ : Hid (Calls Tryz.prog 134 #[.pointer (some ⟨g, 0, none⟩), .int .i64 (i : Nat)] W (StoPost W F (upd (upd m a ⟨J, P⟩) g ⟨remAt its i, remAt ps (i + 1)⟩) (.tuple #[]))) := by
    have z := nodeJoin_any g i a b x W h hg ha hb hab hag hi hp hpa hpb hx l1 l2 l3 l4 l5 l6
    rw [hJ, hP] at z
    exact z
  have lJ : J.length ≤ 601 := by rw [← hJ]; simp; omega
  have lP : P.length ≤ 600 := by rw [← hP]; simp; omega
  rw [hJ, hP] at hleaf ⊢
  have rl : (remAt its i).length = its.length - 1 := remAt_length _ _ hi
  have rp : (remAt ps (i + 1)).length = ps.length - 1 := remAt_length _ _ hp
  have ra : (remAt ps (i + 1))[i]? = some a := by
    rw [remAt, List.getElem?_append_left (by rw [List.length_take]; omega), List.getElem?_take_of_lt (by omega)]; exact hpa
  obtain ⟨m1, hm1⟩ : ∃ m1, upd (upd m a ⟨J, P⟩) g ⟨remAt its i, remAt ps (i + 1)⟩ = m1 := ⟨_, rfl⟩
  have m1g : m1 g = some ⟨remAt its i, remAt ps (i + 1)⟩ := by rw [← hm1]; exact upd_same _ _ _
  have m1a : m1 a = some ⟨J, P⟩ := by rw [← hm1, upd_other _ _ hag, upd_same]
  unfold MendPost
  rw [hm1] at CJ ⊢
  obtain ⟨n3, hn3⟩ : ∃ n, (remAt ps (i + 1)).length = n := ⟨_, rfl⟩
  obtain ⟨nJ, hnJ⟩ : ∃ n, J.length = n := ⟨_, rfl⟩
  have CC : Hid (∀ V F1, Sto V m1 F1 → ∃ q d C e, V.cell? ⟨g, 1, none⟩ = some (.slice (some ⟨q, 0, none⟩) n3 d) ∧ V.cell? ⟨q, i, none⟩ = some (.pointer (some ⟨a, 0, none⟩)) ∧ V.cell? ⟨a, 0, none⟩ = some (.slice C nJ e)) :=
    fun V F1 hS1 => hS1.child m1g ra m1a hn3 hnJ
  have CS : Hid (∀ V F1, Sto V m1 F1 → 6 < nJ → ∃ y : Item, J[nJ / 2]? = some y ∧ Calls Tryz.prog 117 #[.pointer (some ⟨a, 0, none⟩)] V fun e w => ∃ b, V.heap.size ≤ b ∧ StoPost V F1 (upd (upd m1 a ⟨J.take (nJ / 2), P.take (nJ / 2 + 1)⟩) b ⟨J.drop (nJ / 2 + 1), P.drop (nJ / 2 + 1)⟩) (.tuple #[.agg #[.string y.1, .string y.2], .pointer (some ⟨b, 0, none⟩)]) e w) := by
    intro V F1 hS1 h6
    obtain ⟨y, hy⟩ : ∃ y, J[nJ / 2]? = some y := ⟨J[nJ / 2]'(by omega), List.getElem?_eq_getElem _⟩
    refine ⟨y, hy, split_any a V hS1 m1a (nJ / 2) (by rw [hnJ]) (by omega) (by omega) ?_ (by omega) y hy⟩
    rcases hleaf with z | z
    · exact .inl z
    · exact .inr (by omega)
  have CI : Hid (∀ V F1 m2 k v b', Sto V m2 F1 → m2 g = some ⟨remAt its i, remAt ps (i + 1)⟩ → Calls Tryz.prog 116 #[.pointer (some ⟨g, 0, none⟩), .int .i64 (i : Nat), .agg #[.string k, .string v], .pointer (some ⟨b', 0, none⟩)] V (StoPost V F1 (upd m2 g ⟨insAt (remAt its i) i (k, v), insAt (remAt ps (i + 1)) (i + 1) b'⟩) (.tuple #[]))) :=
    fun V F1 m2 k v b' hS1 hm2 => insert_above g i b' k v V hS1 hm2 (by omega) (by omega) (by omega) (by omega)
  have HAG : Hid (∀ V F1 N1 N2 b', Sto V m1 F1 → V.heap.size ≤ b' → upd (upd m1 a N1) b' N2 g = some ⟨remAt its i, remAt ps (i + 1)⟩) := fun V F1 N1 N2 b' hS1 hb' => by
    have hlt := hS1.lt g (hS1.mem m1g)
    rw [upd_other _ _ (by omega), upd_other _ _ (fun e => hag e.symm)]
    exact m1g
  obtain ⟨n, hl⟩ : ∃ n, ic.length = n := ⟨_, rfl⟩
  obtain ⟨n2, hl2⟩ : ∃ n, ps.length = n := ⟨_, rfl⟩
  obtain ⟨q2, dg, C, dc, g1, cj, c0⟩ := h.child hg hpc hc hl2 hl
  have i1 : (j : Int) < (n2 : Int) := by omega
  have i2 : decide (3 ≤ (n : Int)) = false := by simp; omega
  have i3 : (i : Int) < (n3 : Int) := by omega
  have i4 : (nJ : Int) ≤ 601 := by omega
  have i5 : (j : Int) ≤ 300 := by omega
  have HG : Hid (m1 g = some ⟨remAt its i, remAt ps (i + 1)⟩ ∧ J.length = nJ) := ⟨m1g, hnJ⟩
  have HS := Lib.hid h
  clear h hg ha hb hc hab hag hi hp hj hpa hpb hpc hx hic l1 l2 l3 l4 l5 l6 hleaf hJ hP lJ lP rl rp ra hm1 m1g m1a hn3 hnJ hl hl2
  unfold ptr at *
  go_enter Tryz.func121, Tryz.ntmps121
  go_upto_region 1 with fail
  go_cut [4] (fun s4 wx => s4 = .int .i64 (i : Nat) ∧ W = wx)
  case first =>
    go_wp2_with fail
    all_goals
      go_meet
      exact ⟨by congr 1; omega, rfl⟩
  case rest =>
    obtain ⟨rfl, rfl⟩ := hcut
    clear i1 i2 g1 c0 cj hji
    by_cases h6 : 6 < nJ
    · have h6' : (6 : Int) < (nJ : Int) := by omega
      have H6 := Lib.hid h6
      clear h6
      go_wp2_with (first
        | (go_at_call 134; ((with_reducible refine (CJ.out).mono ?_); rintro e w1 ⟨rfl, F1, hS1, hP1⟩; obtain ⟨q1, d1, C1, e1, f1, f2, f3⟩ := CC.out _ _ hS1; have HS1 := Lib.hid hS1; have HP1 := Lib.hid hP1; obtain ⟨y, hy, cs⟩ := CS.out _ _ hS1 H6.out; have HY := Lib.hid hy; have CSP := Lib.hid cs; clear hS1 hP1 hy cs))
        | (go_at_call 117; ((with_reducible refine (CSP.out).mono ?_); rintro e w2 ⟨b', hb', rfl, F2, hS2, hP2⟩; have HS2 := Lib.hid hS2; have HP2 := Lib.hid hP2; have HB2 := Lib.hid hb'; have HM2 := Lib.hid (fun N1 N2 => HAG.out _ _ N1 N2 _ HS1.out hb'); clear hS2 hP2 hb'))
        | (go_at_call 116; ((with_reducible refine (CI.out _ _ _ _ _ _ (HS2.out.new ((Touch.refl _ _).alloc _)) (HM2.out _ _)).mono ?_); rintro e w3 ⟨rfl, F3, hS3, hP3⟩; have HS3 := Lib.hid hS3; have HP3 := Lib.hid hP3; clear hS3 hP3)))
      go_end0
      exact ⟨rfl, _, F3, HS3.out, (HP1.out.trans HP2.out).trans ((Stp.same ((Touch.refl _ _).alloc _)).trans HP3.out), .inr ⟨by rw [HG.out.2]; exact H6.out, b', y, by rw [HG.out.2]; exact HY.out, Nat.le_trans HP1.out.1.size HB2.out, by rw [HG.out.2]⟩⟩
    · have h6' : (nJ : Int) ≤ 6 := by omega
      have H6 := Lib.hid h6
      clear h6
      go_wp2_with (first
        | (go_at_call 134; ((with_reducible refine (CJ.out).mono ?_); rintro e w1 ⟨rfl, F1, hS1, hP1⟩; obtain ⟨q1, d1, C1, e1, f1, f2, f3⟩ := CC.out _ _ hS1; have HS1 := Lib.hid hS1; have HP1 := Lib.hid hP1; clear hS1 hP1)))
      go_end0
      exact ⟨rfl, m1, F1, HS1.out, HP1.out, .inl ⟨by rw [HG.out.2]; have := H6.out; omega, rfl⟩⟩
end Go.Proofs.YthgndgoljchnfaaGreat
