/-
  The walk of a node's mend, over what its join, split and insert leave of a store.
-/
import Derived.Test.YtglinhcldgpphaaGreatNodeSplitB
import Derived.Test.YtglinhcldgpphaaGreatNodeJoin
namespace Go.Proofs.YtglinhcldgpphaaGreat
open Go.RowKit

theorem split_any (g : Nat) {its : List Item} {ps : List Nat} {m : NMap} {F : List Nat} (W : World) (h : Sto W m F) (hm : m g = some ⟨its, ps⟩) (mid : Nat) (hmid : its.length / 2 = mid) (hlo : mid + 1 < its.length) (hn : its.length ≤ 1000) (hp : ps = [] ∨ mid + 1 < ps.length) (hpn : ps.length ≤ 1000) (x : Item) (hx : its[mid]? = some x) :
    Calls Tryz.prog 94 #[ptr g] W fun e w => ∃ b, W.heap.size ≤ b ∧ StoPost W F (upd (upd m g ⟨its.take mid, ps.take (mid + 1)⟩) b ⟨its.drop (mid + 1), ps.drop (mid + 1)⟩) (.tuple #[.agg #[.string x.1, .string x.2], ptr b]) e w := by
  rcases hp with rfl | hp
  · exact split_leaf g W h hm mid hmid hlo hn x hx
  · exact split_above g W h hm mid hmid hlo hn hp hpn x hx

/-- a node and one below it, as a walk reads them -/
theorem Sto.child {W : World} {m : NMap} {F : List Nat} (h : Sto W m F) {g c j n nc : Nat} {its ic : List Item} {ps pc : List Nat} (hg : m g = some ⟨its, ps⟩) (hj : ps[j]? = some c) (hc : m c = some ⟨ic, pc⟩) (hn : ps.length = n) (hnc : ic.length = nc) :
    ∃ q d C e, W.cell? ⟨g, 1, none⟩ = some (.slice (some ⟨q, 0, none⟩) n d) ∧ W.cell? ⟨q, j, none⟩ = some (.pointer (some ⟨c, 0, none⟩)) ∧ W.cell? ⟨c, 0, none⟩ = some (.slice C nc e) := by
  subst hn hnc
  have hjl : j < ps.length := (List.getElem?_eq_some_iff.1 hj).1
  obtain ⟨vg, ug, hNg, -, -⟩ := h.at hg
  obtain ⟨vc, uc, hNc, -, -⟩ := h.at hc
  have hNg : NdX W g its ps vg ug := hNg
  have hNc : NdX W c ic pc vc uc := hNc
  obtain ⟨q2, dg, rfl, -, -⟩ := row_at hNg.r1 (by omega)
  obtain ⟨C, dc, rfl⟩ := own_slice hNc.r0
  refine ⟨q2, dg, C, dc, hNg.c1, ?_, hNc.c0⟩
  rw [hNg.r1.cellAt j (by omega), ptrCells, List.getElem?_map, hj]; rfl
/-- what a mend that joins leaves: the joined node whole, or cut in two -/
def MendPost (W : World) (F : List Nat) (m : NMap) (g a i : Nat) (its J : List Item) (ps P : List Nat) (e : Ending) (w : World) : Prop :=
  e = .returned (.tuple #[]) ∧ ∃ m' F', Sto w m' F' ∧ Stp W F w F' ∧
    ((J.length ≤ 6 ∧ m' = upd (upd m a ⟨J, P⟩) g ⟨remAt its i, remAt ps (i + 1)⟩) ∨
     (6 < J.length ∧ ∃ b y, J[J.length / 2]? = some y ∧ W.heap.size ≤ b ∧
        m' = upd (upd (upd (upd (upd m a ⟨J, P⟩) g ⟨remAt its i, remAt ps (i + 1)⟩) a ⟨J.take (J.length / 2), P.take (J.length / 2 + 1)⟩) b ⟨J.drop (J.length / 2 + 1), P.drop (J.length / 2 + 1)⟩) g ⟨insAt (remAt its i) i y, insAt (remAt ps (i + 1)) (i + 1) b⟩))

end Go.Proofs.YtglinhcldgpphaaGreat
