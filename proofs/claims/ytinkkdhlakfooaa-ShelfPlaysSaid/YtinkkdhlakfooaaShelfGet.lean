/-
  The walks of Get, and of what way leaves for Put and Del.
-/
import Derived.Test.YtinkkdhlakfooaaShelfWay
import Derived.Test.YtinkkdhlakfooaaShelfFacts
namespace Go.Proofs.Ytinkkdhlakfooaa
open Go.RowKit

theorem last_step {W : World} {b c : Nat} {A : Option Addr} {st : List (Nat × Nat)} {g i : Nat} (h : WRow W b (.slice A (st ++ [(g, i)]).length c) (st ++ [(g, i)])) :
    ∃ q, A = some ⟨q, 0, none⟩ ∧ W.cell? ⟨q, st.length * 2, none⟩ = some (.pointer (some ⟨g, 0, none⟩)) ∧ W.cell? ⟨q, st.length * 2 + 1, none⟩ = some (.int .i64 (i : Nat)) ∧ b ≤ q ∧ q < W.heap.size ∧ st.length + 1 ≤ c ∧ c ≤ maxLen := by
  have hl : (st ++ [(g, i)]).length = st.length + 1 := by simp
  have hown : W.ownsRow b 74 2 (.slice A (st ++ [(g, i)]).length c) (st ++ [(g, i)]).length (stepCells (st ++ [(g, i)])) := h
  rcases hown.2 with ⟨h0, h1⟩ | ⟨q, cap, cur, h0, h1, h2, h3, h4, _⟩
  · omega
  · injection h0 with e1 e2 e3
    subst e1 e3
    have z := hown.cellAt (st.length * 2) (by omega)
    have z2 := hown.cellAt (st.length * 2 + 1) (by omega)
    have zl := stepCells_length st
    rw [stepCells_append, List.getElem?_append_right (by omega), zl] at z z2
    exact ⟨q, rfl, by rw [z]; simp [stepCells], by rw [z2, show st.length * 2 + 1 - st.length * 2 = 1 by omega]; simp [stepCells], h1, (Array.getElem?_eq_some_iff.1 h2).1, by omega, h4⟩
/-- what way answers for a key that is there -/
def WayHas (W : World) (m : NMap) (top : Option Nat) (l : List Item) (k : ByteArray) (e : Ending) (w : World) : Prop :=
  ∃ st g i u q c, e = .returned (.tuple #[.slice (some ⟨q, 0, none⟩) (st.length + 1) c, .bool true]) ∧ WRow w W.heap.size (.slice (some ⟨q, 0, none⟩) (st ++ [(g, i)]).length c) (st ++ [(g, i)]) ∧ Below W.heap.size W w ∧ Found m top l k u st g i
/-- and for one that is not -/
def WayNot (W : World) (m : NMap) (top : Option Nat) (l : List Item) (k : ByteArray) (e : Ending) (w : World) : Prop :=
  ∃ steps A c, e = .returned (.tuple #[.slice A steps.length c, .bool false]) ∧ WRow w W.heap.size (.slice A steps.length c) steps ∧ Below W.heap.size W w ∧ Missing m top l k steps
theorem way_has {W : World} {gs : Nat} {top : Option Nat} {n most : Int} {m : NMap} {F : List Nat} {l : List Item} {k : ByteArray} (hX : ShX W gs top n most) (hS : Sto W m F) (hT : TreeIs m top l) (hr : Rising l) (hl : l.length ≤ 200) (hh : hasN l k = true) :
    Calls Try.prog 30 #[.pointer (some ⟨gs, 0, none⟩), .string k] W (WayHas W m top l k) := by
  refine (way_any k hX hS hT hr hl).mono ?_
  rintro e w ⟨steps, A, c, b, rfl, hO, hB, ⟨rfl, st, g, i, u, rfl, hF⟩ | ⟨rfl, hM⟩⟩
  · obtain ⟨q, rfl, -⟩ := last_step hO
    exact ⟨st, g, i, u, q, c, by rw [List.length_append]; rfl, hO, hB, hF⟩
  · rw [(hM.put ByteArray.empty).1] at hh; cases hh
theorem way_not {W : World} {gs : Nat} {top : Option Nat} {n most : Int} {m : NMap} {F : List Nat} {l : List Item} {k : ByteArray} (hX : ShX W gs top n most) (hS : Sto W m F) (hT : TreeIs m top l) (hr : Rising l) (hl : l.length ≤ 200) (hh : hasN l k = false) :
    Calls Try.prog 30 #[.pointer (some ⟨gs, 0, none⟩), .string k] W (WayNot W m top l k) := by
  refine (way_any k hX hS hT hr hl).mono ?_
  rintro e w ⟨steps, A, c, b, rfl, hO, hB, ⟨rfl, st, g, i, u, rfl, hF⟩ | ⟨rfl, hM⟩⟩
  · obtain ⟨_, _, _, _, h1, _⟩ := hF.cut
    rw [h1] at hh; cases hh
  · exact ⟨steps, A, c, rfl, hO, hB, hM⟩
theorem Found.get {m : NMap} {top : Option Nat} {l : List Item} {k u : ByteArray} {steps : List (Nat × Nat)} {g i : Nat} (h : Found m top l k u steps g i) : getN l k = u := by
  obtain ⟨A, B, rfl, hA, _⟩ := h.cut
  have p : placeN (A ++ (k, u) :: B) k = A.length := by rw [placeN_under hA, placeN, lessB_irrefl]; rfl
  simp [getN, p]
/-- the item of a node, as a walk reads it -/
theorem item_sto (W : World) {m : NMap} {F : List Nat} (hS : Sto W m F) {g i : Nat} {its : List Item} {ps : List Nat} (hm : m g = some ⟨its, ps⟩) {x : Item} (hx : its[i]? = some x) :
    ∃ q, q < W.heap.size ∧ q ∈ F ∧ W.cell? ⟨q, i * 2, none⟩ = some (.string x.1) ∧ W.cell? ⟨q, i * 2 + 1, none⟩ = some (.string x.2) ∧ W.frozen? ⟨q, i * 2, none⟩ = false ∧ W.frozen? ⟨q, i * 2 + 1, none⟩ = false ∧
      Calls Try.prog 31 #[.agg #[.pointer (some ⟨g, 0, none⟩), .int .i64 (i : Nat)]] W fun e w' => e = .returned (.pointer (some ⟨q, i * 2, none⟩)) ∧ Below W.heap.size W w' := by
  obtain ⟨hi, rfl⟩ := List.getElem?_eq_some_iff.1 hx
  obtain ⟨v, u, hN, hF, -⟩ := hS.at hm
  have hN : NdX W g its ps v u := hN
  obtain ⟨q, c, rfl, -, -⟩ := row_at hN.r0 (by omega)
  exact ⟨q, (hN.r0.lt q rfl).2, hF q (mem_blocks.2 (.inl rfl)), (hN.r0.cellAt (i * 2) (by omega)).trans (itemCells_get0 its i hi), (hN.r0.cellAt (i * 2 + 1) (by omega)).trans (itemCells_get1 its i hi), hN.r0.frozenAt _, hN.r0.frozenAt _, item_any g i q c W hN hi⟩

set_option maxRecDepth 100000 in
set_option maxHeartbeats 1000000 in
theorem shGet_any {W : World} {gs : Nat} {most : Int} {l : List Item} {F : List Nat} (k : ByteArray) (h : SH W gs most l F) :
    Calls Try.prog 17 #[.pointer (some ⟨gs, 0, none⟩), .string k] W fun e w' => e = .returned (.tuple #[.string (getN l k), .bool (hasN l k)]) ∧ Below W.heap.size W w' := by
  obtain ⟨top, m, F1, hX, hS, -, -, hT, hr, hlm, hm2⟩ := h
  cases hh : hasN l k
  · have CW := Lib.hid (way_not hX hS hT hr (by omega) hh)
    have hg : getN l k = ByteArray.empty := getN_not hh
    rw [hg]
    clear hX hS hT hr hlm hm2 hh hg
    go_enter Try.func17, Try.ntmps17
    go_wp2_with (go_at_call 30; ((with_reducible refine (CW.out).mono ?_); rintro e w1 ⟨steps, A, c, rfl, hO, hB, hM⟩; have HB := Lib.hid hB; clear hO hB hM))
    go_ret2
    exact ⟨rfl, HB.out⟩
  · have CW := Lib.hid (way_has hX hS hT hr (by omega) hh)
    have HS := Lib.hid hS
    obtain ⟨G, hG⟩ : ∃ G, getN l k = G := ⟨_, rfl⟩
    have HG := Lib.hid hG
    rw [hG]
    clear hX hS hT hr hlm hm2 hh hG
    go_enter Try.func17, Try.ntmps17
    go_wp2_with (first
      | (go_at_call 30; ((with_reducible refine (CW.out).mono ?_); rintro e w1 ⟨st, g, i, u, q, c, rfl, hO, hB, hF⟩; obtain ⟨its, ps, e1, e2, e3, -⟩ := hF.set (v := u); have hu : u = G := hF.get.symm.trans HG.out; subst hu; obtain ⟨q', he, k1, k2, k3, k4, k5, k6⟩ := last_step hO; obtain rfl : q = q' := congrArg Addr.block (Option.some.inj he); obtain ⟨qi, j1, j2, j3, j4, j5, j6, j7⟩ := item_sto w1 (HS.out.below hB) e1 e2; have hcl : st.length + 1 ≤ 9223372036854775807 := Nat.le_trans k5 (Nat.le_trans k6 (by unfold maxLen; omega)); obtain ⟨sl, hsl⟩ : ∃ sl, st.length = sl := ⟨_, rfl⟩; rw [hsl] at k1 k2 hcl ⊢; have HB := Lib.hid hB; have CI := Lib.hid j7; clear hO hB hF e1 e2 e3 he j3 j5 j6 j7 k3 k4 k5 k6 hsl))
      | (go_at_call 31; ((with_reducible refine (CI.out).mono ?_); rintro e w2 ⟨rfl, hb2⟩; have j4' := (hb2.cell (p := ⟨qi, i * 2 + 1, none⟩) j1).trans j4; have HB2 : Hid (Below W.heap.size W w2) := acc HB.out hb2; clear hb2)))
    go_ret2
    exact ⟨rfl, HB2.out⟩
end Go.Proofs.Ytinkkdhlakfooaa
