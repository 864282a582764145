/-
  The walk of a node's mend, over what its join, split and insert leave of a store.
-/
import Derived.Test.YtojiblhaiokdcaaNodeSplitB
import Derived.Test.YtojiblhaiokdcaaNodeJoin
namespace Go.Proofs.Ytojiblhaiokdcaa
open Go.RowKit

theorem split_any (g : Nat) {its : List Item} {ps : List Nat} {m : NMap} {F : List Nat} (W : World) (h : Sto W m F) (hm : m g = some ⟨its, ps⟩) (mid : Nat) (hmid : its.length / 2 = mid) (hlo : mid + 1 < its.length) (hn : its.length ≤ 1000) (hp : ps = [] ∨ mid + 1 < ps.length) (hpn : ps.length ≤ 1000) (x : Item) (hx : its[mid]? = some x) :
    Calls Try.prog 57 #[ptr g] W fun e w => ∃ b, W.heap.size ≤ b ∧ StoPost W F (upd (upd m g ⟨its.take mid, ps.take (mid + 1)⟩) b ⟨its.drop (mid + 1), ps.drop (mid + 1)⟩) (.tuple #[.agg #[.string x.1, .string x.2], ptr b]) e w := by
  rcases hp with rfl | hp
  · exact split_leaf g W h hm mid hmid hlo hn x hx
  · exact split_above g W h hm mid hmid hlo hn hp hpn x hx

/-- a node and one below it, as a walk reads them -/
theorem Sto.child {W : World} {m : NMap} {F : List Nat} (h : Sto W m F) {g c j n nc : Nat} {its ic : List Item} {ps pc : List Nat} (hg : m g = some ⟨its, ps⟩) (hj : ps[j]? = some c) (hc : m c = some ⟨ic, pc⟩) (hn : ps.length = n) (hnc : ic.length = nc) :
    ∃ q d C e, W.cell? ⟨g, 1, none⟩ = some (.slice (some ⟨q, 0, none⟩) n d) ∧ W.cell? ⟨q, j, none⟩ = some (.pointer (some ⟨c, 0, none⟩)) ∧ W.cell? ⟨c, 0, none⟩ = some (.slice C nc e) := by
  subst hn hnc
  have hjl : j < ps.length := (List.getElem?_eq_some_iff.1 hj).1
  obtain ⟨vg, ug, hNg, -, -⟩ := h.at hg
  obtain ⟨vc, uc, hNc, -, -⟩ := h.at hc
  have hNg : NdX W g its ps vg ug := hNg
  have hNc : NdX W c ic pc vc uc := hNc
  obtain ⟨q2, dg, rfl, -, -⟩ := row_at hNg.r1 (by omega)
  obtain ⟨C, dc, rfl⟩ := own_slice hNc.r0
  refine ⟨q2, dg, C, dc, hNg.c1, ?_, hNc.c0⟩
  rw [hNg.r1.cellAt j (by omega), ptrCells, List.getElem?_map, hj]; rfl
/-- what a mend that joins leaves: the joined node whole, or cut in two -/
def MendPost (W : World) (F : List Nat) (m : NMap) (g a i : Nat) (its J : List Item) (ps P : List Nat) (e : Ending) (w : World) : Prop :=
  e = .returned (.tuple #[]) ∧ ∃ m' F', Sto w m' F' ∧ Stp W F w F' ∧
    ((J.length ≤ 6 ∧ m' = upd (upd m a ⟨J, P⟩) g ⟨remAt its i, remAt ps (i + 1)⟩) ∨
     (6 < J.length ∧ ∃ b y, J[J.length / 2]? = some y ∧ W.heap.size ≤ b ∧
        m' = upd (upd (upd (upd (upd m a ⟨J, P⟩) g ⟨remAt its i, remAt ps (i + 1)⟩) a ⟨J.take (J.length / 2), P.take (J.length / 2 + 1)⟩) b ⟨J.drop (J.length / 2 + 1), P.drop (J.length / 2 + 1)⟩) g ⟨insAt (remAt its i) i y, insAt (remAt ps (i + 1)) (i + 1) b⟩))

set_option maxRecDepth 100000 in
set_option maxHeartbeats 4000000 in
theorem mend_join (g a b j i : Nat) {its ia ib ic : List Item} {ps pa pb pc : List Nat} {m : NMap} {F : List Nat} (x : Item) (c : Nat) (W : World) (h : Sto W m F) (hg : m g = some ⟨its, ps⟩) (ha : m a = some ⟨ia, pa⟩) (hb : m b = some ⟨ib, pb⟩) (hc : m c = some ⟨ic, pc⟩) (hab : a ≠ b) (hag : a ≠ g)
    (hi : i < its.length) (hp : i + 1 < ps.length) (hj : j < ps.length) (hji : j = i + 1 ∨ (j = 0 ∧ i = 0)) (hpa : ps[i]? = some a) (hpb : ps[i + 1]? = some b) (hpc : ps[j]? = some c) (hx : its[i]? = some x) (hic : ic.length < 3) (l1 : its.length ≤ 300) (l2 : ps.length ≤ 300) (l3 : ia.length ≤ 300) (l4 : pa.length ≤ 300) (l5 : ib.length ≤ 300) (l6 : pb.length ≤ 300)
    (hleaf : pa ++ pb = [] ∨ (pa ++ pb).length = (ia ++ x :: ib).length + 1) :
    Calls Try.prog 61 #[ptr g, .int .i64 (j : Nat)] W (MendPost W F m g a i its (ia ++ x :: ib) ps (pa ++ pb)) := by
  obtain ⟨J, hJ⟩ : ∃ J, ia ++ x :: ib = J := ⟨_, rfl⟩
  obtain ⟨P, hP⟩ : ∃ P, pa ++ pb = P := ⟨_, rfl⟩
  have CJ : Hid (Calls Try.prog 68 #[.pointer (some ⟨g, 0, none⟩), .int .i64 (i : Nat)] W (StoPost W F (upd (upd m a ⟨J, P⟩) g ⟨remAt its i, remAt ps (i + 1)⟩) (.tuple #[]))) := by
    have z := join_any g i a b x W h hg ha hb hab hag hi hp hpa hpb hx l1 l2 l3 l4 l5 l6
    rw [hJ, hP] at z
    exact z
  have lJ : J.length ≤ 601 := by rw [← hJ]; simp; omega
  have lP : P.length ≤ 600 := by rw [← hP]; simp; omega
  rw [hJ, hP] at hleaf ⊢
  have rl : (remAt its i).length = its.length - 1 := remAt_length _ _ hi
  have rp : (remAt ps (i + 1)).length = ps.length - 1 := remAt_length _ _ hp
  have ra : (remAt ps (i + 1))[i]? = some a := by
    rw [remAt, List.getElem?_append_left (by rw [List.length_take]; omega), List.getElem?_take_of_lt (by omega)]; exact hpa
  obtain ⟨m1, hm1⟩ : ∃ m1, upd (upd m a ⟨J, P⟩) g ⟨remAt its i, remAt ps (i + 1)⟩ = m1 := ⟨_, rfl⟩
  have m1g : m1 g = some ⟨remAt its i, remAt ps (i + 1)⟩ := by rw [← hm1]; exact upd_same _ _ _
  have m1a : m1 a = some ⟨J, P⟩ := by rw [← hm1, upd_other _ _ hag, upd_same]
  unfold MendPost
  rw [hm1] at CJ ⊢
  obtain ⟨n3, hn3⟩ : ∃ n, (remAt ps (i + 1)).length = n := ⟨_, rfl⟩
  obtain ⟨nJ, hnJ⟩ : ∃ n, J.length = n := ⟨_, rfl⟩
  have CC : Hid (∀ V F1, Sto V m1 F1 → ∃ q d C e, V.cell? ⟨g, 1, none⟩ = some (.slice (some ⟨q, 0, none⟩) n3 d) ∧ V.cell? ⟨q, i, none⟩ = some (.pointer (some ⟨a, 0, none⟩)) ∧ V.cell? ⟨a, 0, none⟩ = some (.slice C nJ e)) :=
    fun V F1 hS1 => hS1.child m1g ra m1a hn3 hnJ
  have CS : Hid (∀ V F1, Sto V m1 F1 → 6 < nJ → ∃ y : Item, J[nJ / 2]? = some y ∧ Calls Try.prog 57 #[.pointer (some ⟨a, 0, none⟩)] V fun e w => ∃ b, V.heap.size ≤ b ∧ StoPost V F1 (upd (upd m1 a ⟨J.take (nJ / 2), P.take (nJ / 2 + 1)⟩) b ⟨J.drop (nJ / 2 + 1), P.drop (nJ / 2 + 1)⟩) (.tuple #[.agg #[.string y.1, .string y.2], .pointer (some ⟨b, 0, none⟩)]) e w) := by
    intro V F1 hS1 h6
    obtain ⟨y, hy⟩ : ∃ y, J[nJ / 2]? = some y := ⟨J[nJ / 2]'(by omega), List.getElem?_eq_getElem _⟩
    refine ⟨y, hy, split_any a V hS1 m1a (nJ / 2) (by rw [hnJ]) (by omega) (by omega) ?_ (by omega) y hy⟩
    rcases hleaf with z | z
    · exact .inl z
    · exact .inr (by omega)
  have CI : Hid (∀ V F1 m2 k v b', Sto V m2 F1 → m2 g = some ⟨remAt its i, remAt ps (i + 1)⟩ → Calls Try.prog 56 #[.pointer (some ⟨g, 0, none⟩), .int .i64 (i : Nat), .agg #[.string k, .string v], .pointer (some ⟨b', 0, none⟩)] V (StoPost V F1 (upd m2 g ⟨insAt (remAt its i) i (k, v), insAt (remAt ps (i + 1)) (i + 1) b'⟩) (.tuple #[]))) :=
    fun V F1 m2 k v b' hS1 hm2 => insert_above g i b' k v V hS1 hm2 (by omega) (by omega) (by omega) (by omega)
  have HAG : Hid (∀ V F1 N1 N2 b', Sto V m1 F1 → V.heap.size ≤ b' → upd (upd m1 a N1) b' N2 g = some ⟨remAt its i, remAt ps (i + 1)⟩) := fun V F1 N1 N2 b' hS1 hb' => by
    have hlt := hS1.lt g (hS1.mem m1g)
    rw [upd_other _ _ (by omega), upd_other _ _ (fun e => hag e.symm)]
    exact m1g
  obtain ⟨n, hl⟩ : ∃ n, ic.length = n := ⟨_, rfl⟩
  obtain ⟨n2, hl2⟩ : ∃ n, ps.length = n := ⟨_, rfl⟩
  obtain ⟨q2, dg, C, dc, g1, cj, c0⟩ := h.child hg hpc hc hl2 hl
  have i1 : (j : Int) < (n2 : Int) := by omega
  have i2 : decide (3 ≤ (n : Int)) = false := by simp; omega
  have i3 : (i : Int) < (n3 : Int) := by omega
  have i4 : (nJ : Int) ≤ 601 := by omega
  have i5 : (j : Int) ≤ 300 := by omega
  have HG : Hid (m1 g = some ⟨remAt its i, remAt ps (i + 1)⟩ ∧ J.length = nJ) := ⟨m1g, hnJ⟩
  have HS := Lib.hid h
  clear h hg ha hb hc hab hag hi hp hj hpa hpb hpc hx hic l1 l2 l3 l4 l5 l6 hleaf hJ hP lJ lP rl rp ra hm1 m1g m1a hn3 hnJ hl hl2
  unfold ptr at *
  go_enter Try.func61, Try.ntmps61
  go_upto_region 1 with fail
  go_cut [4] (fun s4 wx => s4 = .int .i64 (i : Nat) ∧ W = wx)
  case first =>
    go_wp2_with fail
    all_goals
      go_meet
      exact ⟨by congr 1; omega, rfl⟩
  case rest =>
    obtain ⟨rfl, rfl⟩ := hcut
    clear i1 i2 g1 c0 cj hji
    by_cases h6 : 6 < nJ
    · have h6' : (6 : Int) < (nJ : Int) := by omega
      have H6 := Lib.hid h6
      clear h6
      go_wp2_with (first
        | (go_at_call 68; ((with_reducible refine (CJ.out).mono ?_); rintro e w1 ⟨rfl, F1, hS1, hP1⟩; obtain ⟨q1, d1, C1, e1, f1, f2, f3⟩ := CC.out _ _ hS1; have HS1 := Lib.hid hS1; have HP1 := Lib.hid hP1; obtain ⟨y, hy, cs⟩ := CS.out _ _ hS1 H6.out; have HY := Lib.hid hy; have CSP := Lib.hid cs; clear hS1 hP1 hy cs))
        | (go_at_call 57; ((with_reducible refine (CSP.out).mono ?_); rintro e w2 ⟨b', hb', rfl, F2, hS2, hP2⟩; have HS2 := Lib.hid hS2; have HP2 := Lib.hid hP2; have HB2 := Lib.hid hb'; have HM2 := Lib.hid (fun N1 N2 => HAG.out _ _ N1 N2 _ HS1.out hb'); clear hS2 hP2 hb'))
        | (go_at_call 56; ((with_reducible refine (CI.out _ _ _ _ _ _ (HS2.out.new ((Touch.refl _ _).alloc _)) (HM2.out _ _)).mono ?_); rintro e w3 ⟨rfl, F3, hS3, hP3⟩; have HS3 := Lib.hid hS3; have HP3 := Lib.hid hP3; clear hS3 hP3)))
      go_end0
      exact ⟨rfl, _, F3, HS3.out, (HP1.out.trans HP2.out).trans ((Stp.same ((Touch.refl _ _).alloc _)).trans HP3.out), .inr ⟨by rw [HG.out.2]; exact H6.out, b', y, by rw [HG.out.2]; exact HY.out, Nat.le_trans HP1.out.1.size HB2.out, by rw [HG.out.2]⟩⟩
    · have h6' : (nJ : Int) ≤ 6 := by omega
      have H6 := Lib.hid h6
      clear h6
      go_wp2_with (first
        | (go_at_call 68; ((with_reducible refine (CJ.out).mono ?_); rintro e w1 ⟨rfl, F1, hS1, hP1⟩; obtain ⟨q1, d1, C1, e1, f1, f2, f3⟩ := CC.out _ _ hS1; have HS1 := Lib.hid hS1; have HP1 := Lib.hid hP1; clear hS1 hP1)))
      go_end0
      exact ⟨rfl, m1, F1, HS1.out, HP1.out, .inl ⟨by rw [HG.out.2]; have := H6.out; omega, rfl⟩⟩
end Go.Proofs.Ytojiblhaiokdcaa
