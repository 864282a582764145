/-
  The walk of way: down from node to node, to a key or to where it would be put in.
  The walk of gather: the items of a part put behind a list.
  The walk of Items.
  The walks of the document's own ways: Range, Arc, Middle.
  The walk of the document's own Middle.
-/
import Derived.Test.YthgndgoljchnfaaGreatHg21
import Derived.Test.YthgndgoljchnfaaGreatHg05
import Derived.Test.YthgndgoljchnfaaGreatHg12
import Derived.Test.YthgndgoljchnfaaGreatHg03
import Derived.Test.YthgndgoljchnfaaGreatHg13
import Derived.Test.YthgndgoljchnfaaGreatHg01
import Derived.Deep.RegionHeld3
import Derived.Deep.DrawnRows
namespace Go.Proofs.YthgndgoljchnfaaGreat
open Go.RowKit

def stepCells (l : List (Nat × Nat)) : List Value := l.flatMap fun s => [Value.pointer (some ⟨s.1, 0, none⟩), Value.int .i64 (s.2 : Nat)]
theorem stepCells_append (a b : List (Nat × Nat)) : stepCells (a ++ b) = stepCells a ++ stepCells b := by simp [stepCells]
theorem stepCells_length : ∀ l : List (Nat × Nat), (stepCells l).length = l.length * 2
  | [] => rfl
  | x :: l => by rw [show x :: l = [x] ++ l from rfl, stepCells_append, List.length_append, stepCells_length l]; simp [stepCells]; omega
theorem steps_one : ∀ (l : List (Nat × Nat)), ∀ u ∈ stepCells l, u.oneCell' = true := by
  intro l u h
  obtain ⟨s, _, hs⟩ := List.mem_flatMap.1 h
  simp at hs
  rcases hs with rfl | rfl <;> rfl
theorem infoStep : ∃ i, Tryz.prog.info? 146 = some i ∧ i.zero = some (.agg #[.pointer none, .int .i64 0]) ∧ i.size = 2 ∧ i.bytes = 16 := by
  have h : (Tryz.prog.info? 146).map (fun i => (i.zero, i.size, i.bytes)) = some (some (.agg #[.pointer none, .int .i64 0]), 2, 16) := by kernel_rfl
  obtain ⟨i, hi, hx⟩ := Option.map_eq_some_iff.1 h
  simp only [Prod.mk.injEq] at hx
  exact ⟨i, hi, hx⟩
/-- the rows of steps that a call owns -/
abbrev WRow (W : World) (b : Nat) (v : Value) (l : List (Nat × Nat)) : Prop := W.ownsRow b 146 2 v l.length (stepCells l)
/-- what way answers -/
def WayPost (W : World) (m : NMap) (top : Option Nat) (l : List Item) (k : ByteArray) (e : Ending) (w : World) : Prop :=
  ∃ steps A c b, e = .returned (.tuple #[.slice A steps.length c, .bool b]) ∧ WRow w W.heap.size (.slice A steps.length c) steps ∧ Below W.heap.size W w ∧
    ((b = true ∧ ∃ st g i u, steps = st ++ [(g, i)] ∧ Found m top l k u st g i) ∨ (b = false ∧ Missing m top l k steps))
theorem way_push {w w' : World} {b n : Nat} {v v' : Value} {l : List (Nat × Nat)} {g i : Nat} (_h : WRow w b v l) (k : w'.ownsRow b 146 2 v' n (stepCells l ++ stepCells [(g, i)])) (hn : n = l.length + 1) : WRow w' b v' (l ++ [(g, i)]) := by
  subst hn
  rw [← stepCells_append] at k
  have e : (l ++ [(g, i)]).length = l.length + 1 := by simp
  show World.ownsRow _ _ _ _ _ _ _
  rw [e]; exact k
theorem wrow_len {w : World} {b c : Nat} {A : Option Addr} {l : List (Nat × Nat)} {x : Nat × Nat} (h : WRow w b (.slice A (l.length + 1) c) (l ++ [x])) : WRow w b (.slice A (l ++ [x]).length c) (l ++ [x]) := by
  have e : (l ++ [x]).length = l.length + 1 := by simp
  rw [e]; exact h
theorem step_src (Wc : World) (b g : Nat) (i : Int) (j : Nat) (hi : i = j) (hh : Wc.heap[b]? = some (.cells #[.pointer (some ⟨g, 0, none⟩), .int .i64 i] 146 (0, 0))) : From Wc 2 (.slice (some ⟨b, 0, none⟩) 1 1) 1 (stepCells [(g, j)]) := by
  subst hi
  refine .inr ⟨_, _, rfl, rfl, fun j' u hj => ?_⟩
  rw [Go.WideShapes.add_plain, Nat.zero_add, cell_of_row Wc b j' _ 146 (0, 0) hh]
  simpa [stepCells] using hj

set_option maxRecDepth 100000 in
set_option maxHeartbeats 4000000 in
theorem way_any {W : World} {gs : Nat} {top : Option Nat} {n most : Int} {m : NMap} {F : List Nat} {l : List Item} (k : ByteArray) (hX : ShX W gs top n most) (hS : Sto W m F) (hT : TreeIs m top l) (hr : Rising l) (hl : l.length ≤ 200) :
    Calls Tryz.prog 97 #[.pointer (some ⟨gs, 0, none⟩), .string k] W (WayPost W m top l k) := by
  have CR := Lib.hid (ready_any gs W hX)
  have c0 := hX.c0
  obtain ⟨i0, hi0, hz0, hs0, hb0⟩ := infoStep
  obtain ⟨p0, h0, hp0, hh0, hst⟩ : ∃ (p0 : Value) (h0 : Nat), optPtr top = p0 ∧ h0 ≤ 300 ∧ ((∃ p, p0 = .pointer (some ⟨p, 0, none⟩) ∧ AtNode m top l k [] p h0) ∨ (p0 = .pointer none ∧ Missing m top l k [])) := by
    cases top with
    | none => exact ⟨_, 0, rfl, by omega, .inr ⟨rfl, .inl ⟨rfl, rfl, hT⟩⟩⟩
    | some t =>
      obtain ⟨h, I, s, hnd⟩ := hT
      obtain ⟨d1, d2⟩ := high_deep s
      have d3 := log4_lt l.length
      rw [deepN, if_neg d2] at d1
      exact ⟨_, h, rfl, by omega, .inl ⟨t, rfl, AtNode.start s hnd⟩⟩
  rw [hp0] at c0
  have HST : Hid ((∃ p, p0 = .pointer (some ⟨p, 0, none⟩) ∧ AtNode m top l k [] p h0) ∨ (p0 = .pointer none ∧ Missing m top l k [])) := hst
  have HS := Lib.hid hS
  have HR := Lib.hid hr
  clear hX hS hT hr hst hp0
  go_enter Tryz.func97, Tryz.ntmps97
  go_wp2
  go_step3
  go_wp2_with (go_at_call 81; ((with_reducible refine (CR.out).mono ?_); rintro e w1 ⟨rfl, rfl⟩))
  go_step3
  go_wp2
  go_loopg [6, 7] (h0 + 3) (fun gh s6 s7 wx => ∃ steps A c, s6 = .slice A steps.length c ∧ steps.length ≤ h0 + 1 ∧ Hid (WRow wx W.heap.size (.slice A steps.length c) steps) ∧ Hid (Below W.heap.size W wx) ∧ ((∃ p h, s7 = .pointer (some ⟨p, 0, none⟩) ∧ Hid (AtNode m top l k steps p h) ∧ steps.length + h = h0 ∧ h + 2 ≤ gh) ∨ (s7 = .pointer none ∧ Hid (Missing m top l k steps) ∧ 1 ≤ gh)))
  case atStart =>
    rcases HST.out with ⟨p, rfl, hA⟩ | ⟨rfl, hM⟩
    · exact ⟨[], none, 0, rfl, by simp, World.ownsRow_nil _ _ _ _, Below.refl _ _, .inl ⟨p, h0, rfl, hA, by simp, by omega⟩⟩
    · exact ⟨[], none, 0, rfl, by simp, World.ownsRow_nil _ _ _ _, Below.refl _ _, .inr ⟨rfl, hM, by omega⟩⟩
  case round =>
    obtain ⟨steps, A, c, rfl, hsl, HO, HB, hcase⟩ := hrel
    rcases hcase with ⟨p, h, rfl, HA, hsh, hgh⟩ | ⟨rfl, HM, hgh⟩
    · obtain ⟨wo, rfl⟩ : ∃ wo : World, wo = wr := ⟨_, rfl⟩
      obtain ⟨go, rfl⟩ : ∃ go, go = gk := ⟨_, rfl⟩
      obtain ⟨its, ps, e1, hri, n1, n6, hps, hfound, hdown⟩ := HA.out.step HR.out
      have hSo : Hid (Sto wo m F) := HS.out.below HB.out
      obtain ⟨v, u, hN, -, -⟩ := hSo.out.at e1
      have hN : NdX wo p its ps v u := hN
      obtain ⟨q, cq, rfl, hq1, hq2⟩ := row_at hN.r0 (by omega)
      have f0 := hN.c0
      have hpl := hN.lt
      have hpW : p < W.heap.size := HS.out.lt p (HS.out.mem e1)
      have hql : q < wo.heap.size := (hN.r0.lt q rfl).2
      have HROW : Hid (Row wo (.slice (some ⟨q, 0, none⟩) its.length cq) its) := hN.r0
      have CDN : Hid (∀ V j, Below W.heap.size W V → (ps = [] → Calls Tryz.prog 101 #[.pointer (some ⟨p, 0, none⟩), .int .i64 (j : Nat)] V fun e w => e = .returned (.pointer none) ∧ V = w) ∧
          (∀ q, ps[j]? = some q → Calls Tryz.prog 101 #[.pointer (some ⟨p, 0, none⟩), .int .i64 (j : Nat)] V fun e w => e = .returned (.pointer (some ⟨q, 0, none⟩)) ∧ V = w)) := fun V j hV => down_sto V (HS.out.below hV) e1 (by rcases hps with ⟨_, z⟩ | z; rw [z]; simp; omega)
      have HPS := Lib.hid hps
      have HF := Lib.hid hfound
      have HDN := Lib.hid hdown
      have HRI := Lib.hid hri
      obtain ⟨nn, hn⟩ : ∃ nn, its.length = nn := ⟨_, rfl⟩
      have HN := Lib.hid hn
      have HE1 := Lib.hid e1
      rw [hn] at f0 n6 hq1
      clear hN hq2 hps hfound hdown hri hn n1 e1
      go_wp2_with fail
      go_loopg [6, 7, 24] (nn + 1) (fun gi s6 s7 s24 wy => ∃ i, i + gi = nn + 1 ∧ i ≤ nn ∧ s6 = .slice A steps.length c ∧ s7 = .pointer (some ⟨p, 0, none⟩) ∧ s24 = .int .i64 (i : Nat) ∧ Hid (Under (its.take i) k) ∧ Hid (WRow wy W.heap.size (.slice A steps.length c) steps) ∧ Hid (Below wo.heap.size wo wy))
      case atStart => exact ⟨0, by omega, by omega, rfl, rfl, rfl, (fun x hx => by simp at hx), HO.out, Below.refl _ _⟩
      case round =>
        obtain ⟨i, hig, hi, rfl, rfl, rfl, HU, HO2, HBy⟩ := hrel
        have hsz := HBy.out.size
        by_cases hlt : i < nn
        · have hlt' : i < its.length := by rw [HN.out]; exact hlt
          have ck := (HBy.out.cell (p := ⟨q, i * 2, none⟩) hql).trans ((HROW.out.cellAt (i * 2) (by omega)).trans (itemCells_get0 its i hlt'))
          have cv := (HBy.out.cell (p := ⟨q, i * 2 + 1, none⟩) hql).trans ((HROW.out.cellAt (i * 2 + 1) (by omega)).trans (itemCells_get1 its i hlt'))
          have HX : Hid (its[i]? = some its[i]) := List.getElem?_eq_getElem hlt'
          have i1 : (i : Int) < (nn : Int) := by omega
          have hqr : q < wr.heap.size := by omega
          have hpr : p < wr.heap.size := by omega
          have fp := (HBy.out.cell (p := ⟨p, 0, none⟩) hpl).trans f0
          have HBW : Hid (Below W.heap.size W wr) := HB.out.trans (HBy.out.mono HB.out.size)
          have HI := Lib.hid hi
          have HLT := Lib.hid hlt'
          generalize its[i] = x at *
          clear hi hlt hlt'
          obtain ⟨xk, xv⟩ := x
          have LC := Lib.hid (fun W1 => less_any xk k W1)
          cases hx : Op.bytesLess xk.toList k.toList
          · rw [hx] at LC
            have HXL : Hid (lessB xk k = false) := hx
            clear hx
            cases hb : (xk.toList == k.toList)
            · -- the key lies ahead of this item: on in the part ahead of it
              have hk : Over (its.drop i) k := by
                have h1 : lessB k xk = true := by
                  rcases lessB_total (a := xk) (b := k) (fun e => by rw [e] at hb; simp at hb) with z | z
                  · rw [HXL.out] at z; cases z
                  · exact z
                have h2 := list_at HX.out
                have h3 := HRI.out
                rw [h2] at h3
                obtain ⟨_, h4, _⟩ := rising_append.1 h3
                have h5 : its.drop i = (xk, xv) :: its.drop (i + 1) := by
                  obtain ⟨hi9, he⟩ := List.getElem?_eq_some_iff.1 HX.out
                  rw [← he]; exact List.drop_eq_getElem_cons hi9
                rw [h5]
                intro y hy
                rcases List.mem_cons.1 hy with rfl | hy
                · exact h1
                · exact lessB_trans h1 ((rising_cons.1 h4).1 y hy)
              have HK := Lib.hid hk
              clear hk
              rcases HPS.out with ⟨hz, hp⟩ | hp
              · have CD2 : Hid (∀ V, Below W.heap.size W V → Calls Tryz.prog 101 #[.pointer (some ⟨p, 0, none⟩), .int .i64 (i : Nat)] V fun e w => e = .returned (.pointer none) ∧ V = w) := fun V hV => (CDN.out V i hV).1 hp
                have HMS := Lib.hid ((HDN.out i (by have := HLT.out; omega) HU.out HK.out).1 hp)
                clear hp hz
                go_wp2_with (first
                  | (go_at_call 79; ((with_reducible refine (LC.out _).mono ?_); rintro e w3 ⟨rfl, rfl⟩))
                  | (at_builtin; go_must (refine wpList_append_any rfl (.tmp 33) (.tmp 37) 141 rfl W.heap.size 146 i0 (.agg #[.pointer none, .int .i64 0]) 2 16 Tryz.underlying141 hi0 hz0 hs0 hb0 rfl (by decide) (.slice A steps.length c) steps.length (stepCells steps) rfl ((HO2.out.alloc _).alloc _) (.slice (some ⟨wr.heap.size + 1, 0, none⟩) 1 1) 1 (stepCells [(p, i)]) rfl (step_src _ _ p _ i rfl (heap_alloc2_new _ _ _)) (steps_one _) (by unfold maxLen; omega) (by omega) (by have := HBW.out.size; simp; omega) ?_); intro A2 c2 w4 ho4 hg4 _; have HO4 := Lib.hid (way_push HO2.out ho4 rfl); have HB4 : Hid (Below W.heap.size W w4) := own_below ((HO2.out.alloc _).alloc _) ((HBW.out.alloc (by have := HBW.out.size; omega) _).alloc (by have := HBW.out.size; simp; omega) _) (by have := HBW.out.size; simp; omega) hg4; have bx4 := hg4.cell (a := ⟨wr.heap.size, 0, none⟩) (v := .string xk) (by go_simp) (fun e => Nat.lt_irrefl _ (HO2.out.lt _ e.symm).2); clear ho4 hg4)
                  | (go_at_call 101; ((with_reducible refine (CD2.out _ HB4.out).mono ?_); rintro e w5 ⟨rfl, rfl⟩)))
                go_roundg (go - 1)
                case measure => omega
                case rel => exact ⟨steps ++ [(p, i)], A2, c2, by rw [List.length_append]; rfl, by simp; omega, wrow_len HO4.out, HB4.out, .inr ⟨rfl, HMS.out, by omega⟩⟩
              · obtain ⟨q', hq'⟩ : ∃ q', ps[i]? = some q' := ⟨ps[i]'(by have := HLT.out; omega), List.getElem?_eq_getElem _⟩
                have CD2 : Hid (∀ V, Below W.heap.size W V → Calls Tryz.prog 101 #[.pointer (some ⟨p, 0, none⟩), .int .i64 (i : Nat)] V fun e w => e = .returned (.pointer (some ⟨q', 0, none⟩)) ∧ V = w) := fun V hV => (CDN.out V i hV).2 q' hq'
                obtain ⟨hh, hat⟩ := (HDN.out i (by have := HLT.out; omega) HU.out HK.out).2 q' hq'
                have HAT := Lib.hid hat
                clear hp hq' hat
                go_wp2_with (first
                  | (go_at_call 79; ((with_reducible refine (LC.out _).mono ?_); rintro e w3 ⟨rfl, rfl⟩))
                  | (at_builtin; go_must (refine wpList_append_any rfl (.tmp 33) (.tmp 37) 141 rfl W.heap.size 146 i0 (.agg #[.pointer none, .int .i64 0]) 2 16 Tryz.underlying141 hi0 hz0 hs0 hb0 rfl (by decide) (.slice A steps.length c) steps.length (stepCells steps) rfl ((HO2.out.alloc _).alloc _) (.slice (some ⟨wr.heap.size + 1, 0, none⟩) 1 1) 1 (stepCells [(p, i)]) rfl (step_src _ _ p _ i rfl (heap_alloc2_new _ _ _)) (steps_one _) (by unfold maxLen; omega) (by omega) (by have := HBW.out.size; simp; omega) ?_); intro A2 c2 w4 ho4 hg4 _; have HO4 := Lib.hid (way_push HO2.out ho4 rfl); have HB4 : Hid (Below W.heap.size W w4) := own_below ((HO2.out.alloc _).alloc _) ((HBW.out.alloc (by have := HBW.out.size; omega) _).alloc (by have := HBW.out.size; simp; omega) _) (by have := HBW.out.size; simp; omega) hg4; have bx4 := hg4.cell (a := ⟨wr.heap.size, 0, none⟩) (v := .string xk) (by go_simp) (fun e => Nat.lt_irrefl _ (HO2.out.lt _ e.symm).2); clear ho4 hg4)
                  | (go_at_call 101; ((with_reducible refine (CD2.out _ HB4.out).mono ?_); rintro e w5 ⟨rfl, rfl⟩)))
                go_roundg (go - 1)
                case measure => omega
                case rel => exact ⟨steps ++ [(p, i)], A2, c2, by rw [List.length_append]; rfl, by simp; omega, wrow_len HO4.out, HB4.out, .inl ⟨q', h - 1, rfl, HAT.out, by simp; omega, by omega⟩⟩
            · have hkey : xk = k := toList_inj (by simpa using hb)
              have HFD := Lib.hid (HF.out i (xk, xv) HX.out HU.out hkey)
              clear hkey
              go_wp2_with (first
                | (go_at_call 79; ((with_reducible refine (LC.out _).mono ?_); rintro e w3 ⟨rfl, rfl⟩))
                | (at_builtin; go_must (refine wpList_append_any rfl (.tmp 33) (.tmp 37) 141 rfl W.heap.size 146 i0 (.agg #[.pointer none, .int .i64 0]) 2 16 Tryz.underlying141 hi0 hz0 hs0 hb0 rfl (by decide) (.slice A steps.length c) steps.length (stepCells steps) rfl ((HO2.out.alloc _).alloc _) (.slice (some ⟨wr.heap.size + 1, 0, none⟩) 1 1) 1 (stepCells [(p, i)]) rfl (step_src _ _ p _ i rfl (heap_alloc2_new _ _ _)) (steps_one _) (by unfold maxLen; omega) (by omega) (by have := HBW.out.size; simp; omega) ?_); intro A2 c2 w4 ho4 hg4 _; have HO4 := Lib.hid (way_push HO2.out ho4 rfl); have HB4 : Hid (Below W.heap.size W w4) := own_below ((HO2.out.alloc _).alloc _) ((HBW.out.alloc (by have := HBW.out.size; omega) _).alloc (by have := HBW.out.size; simp; omega) _) (by have := HBW.out.size; simp; omega) hg4; have bx4 := hg4.cell (a := ⟨wr.heap.size, 0, none⟩) (v := .string xk) (by go_simp) (fun e => Nat.lt_irrefl _ (HO2.out.lt _ e.symm).2); clear ho4 hg4))
              rw [Exit.noGoto_ret]
              go_ret2
              exact ⟨steps ++ [(p, i)], A2, c2, true, by rw [List.length_append]; rfl, wrow_len HO4.out, HB4.out, .inl ⟨rfl, steps, p, i, xv, rfl, HFD.out⟩⟩
          · rw [hx] at LC
            have HXL : Hid (lessB xk k = true) := hx
            clear hx
            go_wp2_with (go_at_call 79; ((with_reducible refine (LC.out _).mono ?_); rintro e w3 ⟨rfl, rfl⟩))
            go_roundg (gk - 1)
            case measure => omega
            case rel => exact ⟨i + 1, by omega, by have := HLT.out; have := HN.out; omega, rfl, rfl, by go_num, by rw [List.take_add_one, HX.out]; exact Under.append HU.out (fun y hy => by simp at hy; rw [hy]; exact HXL.out), HO2.out.alloc _, HBy.out.alloc (by omega) _⟩
        · obtain rfl : i = nn := by omega
          have hpr : p < wr.heap.size := by omega
          have fp := (HBy.out.cell (p := ⟨p, 0, none⟩) hpl).trans f0
          have HBW : Hid (Below W.heap.size W wr) := HB.out.trans (HBy.out.mono HB.out.size)
          have HK : Hid (Over (its.drop i) k) := by
            have e : its.drop i = [] := List.drop_of_length_le (by rw [HN.out]; omega)
            show Over _ k
            rw [e]; exact fun y hy => by cases hy
          have hli : i ≤ its.length := by rw [HN.out]; omega
          have HLI := Lib.hid hli
          clear hli hi hlt
          rcases HPS.out with ⟨hz, hp⟩ | hp
          · have CD2 : Hid (∀ V, Below W.heap.size W V → Calls Tryz.prog 101 #[.pointer (some ⟨p, 0, none⟩), .int .i64 (i : Nat)] V fun e w => e = .returned (.pointer none) ∧ V = w) := fun V hV => (CDN.out V i hV).1 hp
            have HMS := Lib.hid ((HDN.out i HLI.out HU.out HK.out).1 hp)
            clear hp hz
            go_wp2_with (first
              | (at_builtin; go_must (refine wpList_append_any rfl (.tmp 48) (.tmp 56) 141 rfl W.heap.size 146 i0 (.agg #[.pointer none, .int .i64 0]) 2 16 Tryz.underlying141 hi0 hz0 hs0 hb0 rfl (by decide) (.slice A steps.length c) steps.length (stepCells steps) rfl (HO2.out.alloc _) (.slice (some ⟨wr.heap.size, 0, none⟩) 1 1) 1 (stepCells [(p, i)]) rfl (step_src _ _ p _ i rfl (heap_alloc_new _ _)) (steps_one _) (by unfold maxLen; omega) (by omega) (by have := HBW.out.size; simp; omega) ?_); intro A2 c2 w4 ho4 hg4 _; have HO4 := Lib.hid (way_push HO2.out ho4 rfl); have HB4 : Hid (Below W.heap.size W w4) := own_below (HO2.out.alloc _) (HBW.out.alloc (by have := HBW.out.size; omega) _) (by have := HBW.out.size; simp; omega) hg4; have fp4 := hg4.cell (a := ⟨p, 0, none⟩) (v := .slice (some ⟨q, 0, none⟩) i cq) (by go_simp) (fun e => absurd (HO2.out.lt _ e.symm).1 (Nat.not_le.2 hpW)); clear ho4 hg4)
              | (go_at_call 101; ((with_reducible refine (CD2.out _ HB4.out).mono ?_); rintro e w5 ⟨rfl, rfl⟩)))
            go_roundg (go - 1)
            case measure => omega
            case rel => exact ⟨steps ++ [(p, i)], A2, c2, by rw [List.length_append]; rfl, by simp; omega, wrow_len HO4.out, HB4.out, .inr ⟨rfl, HMS.out, by omega⟩⟩
          · obtain ⟨q', hq'⟩ : ∃ q', ps[i]? = some q' := ⟨ps[i]'(by have := HN.out; omega), List.getElem?_eq_getElem _⟩
            have CD2 : Hid (∀ V, Below W.heap.size W V → Calls Tryz.prog 101 #[.pointer (some ⟨p, 0, none⟩), .int .i64 (i : Nat)] V fun e w => e = .returned (.pointer (some ⟨q', 0, none⟩)) ∧ V = w) := fun V hV => (CDN.out V i hV).2 q' hq'
            obtain ⟨hh, hat⟩ := (HDN.out i HLI.out HU.out HK.out).2 q' hq'
            have HAT := Lib.hid hat
            clear hp hq' hat
            go_wp2_with (first
              | (at_builtin; go_must (refine wpList_append_any rfl (.tmp 48) (.tmp 56) 141 rfl W.heap.size 146 i0 (.agg #[.pointer none, .int .i64 0]) 2 16 Tryz.underlying141 hi0 hz0 hs0 hb0 rfl (by decide) (.slice A steps.length c) steps.length (stepCells steps) rfl (HO2.out.alloc _) (.slice (some ⟨wr.heap.size, 0, none⟩) 1 1) 1 (stepCells [(p, i)]) rfl (step_src _ _ p _ i rfl (heap_alloc_new _ _)) (steps_one _) (by unfold maxLen; omega) (by omega) (by have := HBW.out.size; simp; omega) ?_); intro A2 c2 w4 ho4 hg4 _; have HO4 := Lib.hid (way_push HO2.out ho4 rfl); have HB4 : Hid (Below W.heap.size W w4) := own_below (HO2.out.alloc _) (HBW.out.alloc (by have := HBW.out.size; omega) _) (by have := HBW.out.size; simp; omega) hg4; have fp4 := hg4.cell (a := ⟨p, 0, none⟩) (v := .slice (some ⟨q, 0, none⟩) i cq) (by go_simp) (fun e => absurd (HO2.out.lt _ e.symm).1 (Nat.not_le.2 hpW)); clear ho4 hg4)
              | (go_at_call 101; ((with_reducible refine (CD2.out _ HB4.out).mono ?_); rintro e w5 ⟨rfl, rfl⟩)))
            go_roundg (go - 1)
            case measure => omega
            case rel => exact ⟨steps ++ [(p, i)], A2, c2, by rw [List.length_append]; rfl, by simp; omega, wrow_len HO4.out, HB4.out, .inl ⟨q', h - 1, rfl, HAT.out, by simp; omega, by omega⟩⟩
    · go_wp2_with fail
      rw [Exit.noGoto_ret]
      go_ret2
      exact ⟨steps, A, c, false, rfl, HO.out, HB.out, .inr ⟨rfl, HM.out⟩⟩
end Go.Proofs.YthgndgoljchnfaaGreat
namespace Go.Proofs.YthgndgoljchnfaaGreat
open Go.RowKit
attribute [local go_sem ↓] Go.wp_at_zero Go.wp_at_succ

/-- what lies below the place i -/
def chl (cs : List Ch) (i : Nat) : List Item := (cs[i]?.map Ch.l).getD []
theorem weave_next {cs : List Ch} {its : List Item} {i : Nat} {x : Item} (hc : cs = [] ∨ cs.length = its.length + 1) (hx : its[i]? = some x) : weave (cs.drop i) (its.drop i) = chl cs i ++ x :: weave (cs.drop (i + 1)) (its.drop (i + 1)) := by
  obtain ⟨hi, rfl⟩ := List.getElem?_eq_some_iff.1 hx
  rw [List.drop_eq_getElem_cons hi]
  rcases hc with rfl | hc
  · simp [chl, weave]
  · have hi2 : i < cs.length := by omega
    rw [List.drop_eq_getElem_cons hi2]
    simp [chl, weave, List.getElem?_eq_getElem hi2]
theorem weave_last {cs : List Ch} {its : List Item} (hc : cs = [] ∨ cs.length = its.length + 1) : weave (cs.drop its.length) (its.drop its.length) = chl cs its.length := by
  rw [List.drop_of_length_le (Nat.le_refl _)]
  rcases hc with rfl | hc
  · simp [chl, weave]
  · have hi2 : its.length < cs.length := by omega
    rw [List.drop_eq_getElem_cons hi2]
    simp [chl, weave, List.getElem?_eq_getElem hi2]
abbrev ItRow (W : World) (b : Nat) (v : Value) (l : List Item) : Prop := W.ownsRow b 31 2 v l.length (itemCells l)
/-- what gather answers: the list with the part's items behind; only its own row may be turned -/
def GPost (W : World) (b : Nat) (v : Value) (l0 l : List Item) (e : Ending) (w : World) : Prop :=
  ∃ A c, e = .returned (.slice A (l0 ++ l).length c) ∧ ItRow w b (.slice A (l0 ++ l).length c) (l0 ++ l) ∧ Touch v.ownBlock.toList W w ∧ SameOrNew W v (.slice A (l0 ++ l).length c)
set_option maxHeartbeats 1000000 in
theorem gather_nil (W : World) (b : Nat) (A : Option Addr) (c : Nat) (l0 : List Item) (h : ItRow W b (.slice A l0.length c) l0) :
    Calls Tryz.prog 82 #[.pointer none, .slice A l0.length c] W (GPost W b (.slice A l0.length c) l0 []) := by
  have H := Lib.hid h
  clear h
  go_enter Tryz.func82, Tryz.ntmps82
  go_wp2
  go_ret
  exact ⟨A, c, by rw [List.append_nil]; rfl, by rw [List.append_nil]; exact H.out, Touch.refl _ _, by rw [List.append_nil]; exact fun z e => .inl e⟩
/-- what is kept while an item is put behind the list: only the list's own row may be turned -/
def ItKept (V : World) (lst : List Nat) (A : World → Prop) (w : World) : Prop := Touch lst V w ∧ A w
theorem kept_start {V : World} {lst : List Nat} {A : World → Prop} (HSS : ∀ w', Touch lst V w' → A w') : ItKept V lst A V.drew := ⟨(Touch.refl _ _).drew, HSS _ (Touch.refl _ _).drew⟩
theorem kept_touch {V : World} {lst : List Nat} {A : World → Prop} (HSS : ∀ w', Touch lst V w' → A w') {w w1 : World} (t : Touch lst w w1) (h : ItKept V lst A w) : ItKept V lst A w1 := ⟨h.1.trans t (fun _ hx => .inl hx), HSS _ (h.1.trans t (fun _ hx => .inl hx))⟩
theorem kept_alloc {V : World} {lst : List Nat} {A : World → Prop} (HSS : ∀ w', Touch lst V w' → A w') {w : World} (o : Obj) (h : ItKept V lst A w) : ItKept V lst A (w.alloc o) := ⟨h.1.alloc o, HSS _ (h.1.alloc o)⟩
theorem kept_grown {V : World} {lst : List Nat} {A : World → Prop} (HSS : ∀ w', Touch lst V w' → A w') {w w1 : World} {row : Option Nat} (hr : ∀ k, row = some k → k ∈ lst ∨ V.heap.size ≤ k) (hg : w.grownBy w1 row) (h : ItKept V lst A w) : ItKept V lst A w1 := ⟨h.1.grown hg hr, HSS _ (h.1.grown hg hr)⟩
theorem item_src (Wc : World) (b : Nat) (xk xv : ByteArray) (hh : Wc.heap[b]? = some (.cells #[.string xk, .string xv] 31 (0, 0))) : From Wc 2 (.slice (some ⟨b, 0, none⟩) 1 1) 1 (itemCells [(xk, xv)]) := by
  refine .inr ⟨_, _, rfl, rfl, fun j' u hj => ?_⟩
  rw [Go.WideShapes.add_plain, Nat.zero_add, cell_of_row Wc b j' _ 31 (0, 0) hh]
  simpa [itemCells] using hj
theorem row_new {V V' : World} {lst : List Nat} {v v2 : Value} (hlst : v.ownBlock.toList = lst) (hsz : V.heap.size ≤ V'.heap.size) (hs : SameOrNew V' v v2) : ∀ k, v2.ownBlock = some k → k ∈ lst ∨ V.heap.size ≤ k := fun k e => by
  rcases hs k e with z | z
  · exact .inl (by rw [← hlst, z]; simp)
  · exact .inr (by omega)
theorem src_late {V w2 : World} {lst : List Nat} {b n : Nat} {o : Obj} (t : Touch lst (V.alloc o).drew w2) (hl : ∀ k ∈ lst, b ≤ k ∧ k < n) (hz : V.heap.size = n + 1) : w2.heap[n + 1]? = some o := by
  rw [← hz]
  exact (t.block V.heap.size (by show V.heap.size < (V.alloc o).heap.size; simp) (fun e => by have := (hl _ e).2; omega)).trans (heap_alloc_new V o)
theorem item_push {w : World} {b : Nat} {A : Option Addr} {c n : Nat} {l : List Item} {x : Item} (h : w.ownsRow b 31 2 (.slice A (n + 1) c) (n + 1) (itemCells l ++ itemCells [x])) (hn : l.length = n) : ItRow w b (.slice A (l ++ [x]).length c) (l ++ [x]) := by
  subst hn
  have e : (l ++ [x]).length = l.length + 1 := by simp
  show World.ownsRow _ _ _ _ _ _ _
  rw [e]
  rw [show itemCells (l ++ [x]) = itemCells l ++ itemCells [x] by simp [itemCells]]
  exact h
theorem row_next {V V' : World} {lst : List Nat} {v v2 : Value} (hr : ∀ k, v.ownBlock = some k → k ∈ lst ∨ V.heap.size ≤ k) (hsz : V.heap.size ≤ V'.heap.size) (hs : SameOrNew V' v v2) : ∀ k, v2.ownBlock = some k → k ∈ lst ∨ V.heap.size ≤ k := fun k e => by
  rcases hs k e with z | z
  · exact hr k z
  · exact .inr (by omega)
theorem lst_old {W : World} {v0 v : Value} {lst : List Nat} (hlst : v.ownBlock.toList = lst) (hs : SameOrNew W v0 v) : ∀ k ∈ lst, k ∈ v0.ownBlock.toList ∨ W.heap.size ≤ k := fun k hk => by
  rw [← hlst] at hk
  have e : v.ownBlock = some k := by simpa using hk
  rcases hs k e with z | z
  · exact .inl (by rw [z]; simp)
  · exact .inr z
theorem own_on {W V : World} {v0 v v3 : Value} {lst : List Nat} (hlst : v.ownBlock.toList = lst) (hs : SameOrNew W v0 v) (hsz : W.heap.size ≤ V.heap.size) (h3 : ∀ k, v3.ownBlock = some k → k ∈ lst ∨ V.heap.size ≤ k) : SameOrNew W v0 v3 := fun k e => by
  rcases h3 k e with z | z
  · rw [← hlst] at z
    exact hs k (by simpa using z)
  · exact .inr (by omega)
theorem gather_on {cs : List Ch} {its cur cur2 all : List Item} {i : Nat} {x : Item} (hw : cur ++ weave (cs.drop i) (its.drop i) = all) (hc2 : cur ++ chl cs i = cur2) (hc : cs = [] ∨ cs.length = its.length + 1) (hx : its[i]? = some x) : (cur2 ++ [x]) ++ weave (cs.drop (i + 1)) (its.drop (i + 1)) = all := by
  rw [weave_next hc hx] at hw
  rw [← hw, ← hc2]
  simp
theorem down_opt (W : World) {m : NMap} {F : List Nat} (hS : Sto W m F) {g i : Nat} {its : List Item} {ps : List Nat} (hm : m g = some ⟨its, ps⟩) (hp : ps = [] ∨ (ps.length = its.length + 1 ∧ its.length ≤ 6)) (hi : i ≤ its.length) :
    Calls Tryz.prog 101 #[.pointer (some ⟨g, 0, none⟩), .int .i64 (i : Nat)] W fun e w => e = .returned (optPtr ps[i]?) ∧ W = w := by
  rcases hp with rfl | ⟨h1, h2⟩
  · exact (down_sto W hS hm (by simp)).1 rfl
  · have h3 : i < ps.length := by omega
    rw [List.getElem?_eq_getElem h3]
    exact (down_sto W hS hm (by omega)).2 _ (List.getElem?_eq_getElem h3)
set_option maxRecDepth 100000 in
set_option maxHeartbeats 4000000 in
theorem gather_node {m : NMap} {F : List Nat} {b g : Nat} {its : List Item} {ps : List Nat} {cs : List Ch} (hm : m g = some ⟨its, ps⟩) (hn1 : 1 ≤ its.length) (hn : its.length ≤ 6) (hps : cs.map Ch.g = ps) (hcs : cs = [] ∨ cs.length = its.length + 1)
    (GC : ∀ i, i ≤ its.length → ∀ (V : World) (A : Option Addr) (c : Nat) (l0 : List Item), Sto V m F → b ≤ V.heap.size → ItRow V b (.slice A l0.length c) l0 → l0.length + (chl cs i).length ≤ 1000 → Calls Tryz.prog 82 #[optPtr ps[i]?, .slice A l0.length c] V (GPost V b (.slice A l0.length c) l0 (chl cs i)))
    (W : World) (A0 : Option Addr) (c0 : Nat) (l0 : List Item) (hS : Sto W m F) (hb : b ≤ W.heap.size) (hF : ∀ q ∈ F, q < b) (hR : ItRow W b (.slice A0 l0.length c0) l0) (hl : l0.length + (weave cs its).length ≤ 1000) :
    Calls Tryz.prog 82 #[.pointer (some ⟨g, 0, none⟩), .slice A0 l0.length c0] W (GPost W b (.slice A0 l0.length c0) l0 (weave cs its)) := by
  obtain ⟨i0, hi0, hz0, hs0, hb0⟩ := infoItems
  obtain ⟨v, u, hN, hbl, -⟩ := hS.at hm
  have hN : NdX W g its ps v u := hN
  obtain ⟨q, cq, rfl, hq1, hq2⟩ := row_at hN.r0 (by omega)
  have hqb : q < b := hF q (hbl q (mem_blocks.2 (.inl rfl)))
  have f0 := hN.c0
  have hgl := hN.lt
  have hgb : g < b := hF g (hS.mem hm)
  have hql : q < W.heap.size := (hN.r0.lt q rfl).2
  have HROW : Hid (Row W (.slice (some ⟨q, 0, none⟩) its.length cq) its) := hN.r0
  have HGC := Lib.hid GC
  have HS := Lib.hid hS
  have HF := Lib.hid hF
  have HR := Lib.hid hR
  have HPS : Hid (ps = [] ∨ (ps.length = its.length + 1 ∧ its.length ≤ 6)) := by
    rw [← hps, List.length_map]
    rcases hcs with z | z
    · exact .inl (by rw [z]; rfl)
    · exact .inr ⟨z, hn⟩
  have HM := Lib.hid hm
  have HCS := Lib.hid hcs
  obtain ⟨nn, hnn⟩ : ∃ nn, its.length = nn := ⟨_, rfl⟩
  have HN := Lib.hid hnn
  rw [hnn] at f0 hn hn1
  clear GC hS hF hR hm hcs hN hq1 hq2 hnn hps
  go_enter Tryz.func82, Tryz.ntmps82
  go_wp2_with fail
  have HV0 : Hid (∀ k, k ∈ (Value.slice A0 l0.length c0).ownBlock.toList → b ≤ k) := fun k hk => (HR.out.lt k (by simpa using hk)).1
  go_loopg [1, 15] (nn + 1) (fun gi s1 s15 wy => ∃ i A c cur, i + gi = nn + 1 ∧ i ≤ nn ∧ s1 = .slice A cur.length c ∧ s15 = .int .i64 (i : Nat) ∧ Hid (cur ++ weave (cs.drop i) (its.drop i) = l0 ++ weave cs its) ∧ Hid (ItRow wy b (.slice A cur.length c) cur) ∧ Hid (Touch (Value.slice A0 l0.length c0).ownBlock.toList W wy) ∧ Hid (SameOrNew W (.slice A0 l0.length c0) (.slice A cur.length c)))
  case atStart => exact ⟨0, A0, c0, l0, by omega, by omega, rfl, rfl, rfl, HR.out, Touch.refl _ _, fun z e => .inl e⟩
  case round =>
    obtain ⟨i, A, c, cur, hig, hi, rfl, rfl, HW, HO, HT, HSN⟩ := hrel
    have hsz := HT.out.size
    have hFo : ∀ z ∈ F, z ∉ (Value.slice A0 l0.length c0).ownBlock.toList := fun z hz e => by have := HF.out z hz; have := HV0.out z e; omega
    have HSr : Hid (Sto wr m F) := HS.out.touch HT.out hFo
    by_cases hlt : i < nn
    · have hlt' : i < its.length := by rw [HN.out]; exact hlt
      have HX : Hid (its[i]? = some its[i]) := List.getElem?_eq_getElem hlt'
      have ck := (HT.out.cell (p := ⟨q, i * 2, none⟩) hql (fun e => by have := HV0.out q e; omega)).trans ((HROW.out.cellAt (i * 2) (by omega)).trans (itemCells_get0 its i hlt'))
      have cv := (HT.out.cell (p := ⟨q, i * 2 + 1, none⟩) hql (fun e => by have := HV0.out q e; omega)).trans ((HROW.out.cellAt (i * 2 + 1) (by omega)).trans (itemCells_get1 its i hlt'))
      have i1 : (i : Int) < (nn : Int) := by omega
      have hqr : q < wr.heap.size := by omega
      generalize its[i] = x at *
      obtain ⟨xk, xv⟩ := x
      have hlen := congrArg List.length HW.out
      rw [weave_next HCS.out HX.out] at hlen
      simp only [List.length_append, List.length_cons] at hlen
      have hlen2 : cur.length + (chl cs i).length + 1 ≤ 1000 := by omega
      obtain ⟨cur2, hcur2⟩ : ∃ cur2, cur ++ chl cs i = cur2 := ⟨_, rfl⟩
      have hlen3 : cur2.length + 1 ≤ 1000 := by rw [← hcur2, List.length_append]; exact hlen2
      obtain ⟨lst, hlst⟩ : ∃ lst, (Value.slice A cur.length c).ownBlock.toList = lst := ⟨_, rfl⟩
      obtain ⟨V, hV⟩ : ∃ V, wr.alloc (.cells #[.string xk, .string xv] 31) = V := ⟨_, rfl⟩
      have tV : Touch [] wr V := by rw [← hV]; exact (Touch.refl _ _).alloc _
      have hzV : V.heap.size = wr.heap.size + 1 := by rw [← hV]; simp
      have hlb : ∀ k ∈ lst, b ≤ k ∧ k < wr.heap.size := fun k hk => HO.out.lt k (by rw [← hlst] at hk; simpa using hk)
      have bx0 : V.cell? ⟨wr.heap.size, 0, none⟩ = some (.string xk) := by rw [← hV]; exact (Box2.fresh _ _ _ _).c0
      have bx1 : V.cell? ⟨wr.heap.size, 1, none⟩ = some (.string xv) := by rw [← hV]; exact (Box2.fresh _ _ _ _).c1
      have HSS : Hid (∀ w', Touch lst V w' → w'.cell? ⟨wr.heap.size, 0, none⟩ = some (.string xk) ∧ w'.cell? ⟨wr.heap.size, 1, none⟩ = some (.string xv)) := fun w' t =>
        have hn : wr.heap.size ∉ lst := fun e => Nat.lt_irrefl _ (hlb _ e).2
        ⟨(t.cell (p := ⟨wr.heap.size, 0, none⟩) (by show wr.heap.size < V.heap.size; omega) hn).trans bx0, (t.cell (p := ⟨wr.heap.size, 1, none⟩) (by show wr.heap.size < V.heap.size; omega) hn).trans bx1⟩
      have hSV : ∀ V', Touch lst V V' → Sto V' m F := fun V' t => (HSr.out.new tV).touch t (fun z hz e => by have := HF.out z hz; have := (hlb z e).1; omega)
      obtain ⟨pi, hpi⟩ : ∃ pi, optPtr ps[i]? = pi := ⟨_, rfl⟩
      have CDN : Hid (∀ (P : Prop) (V' : World), Touch lst V V' ∧ P → Calls Tryz.prog 101 #[.pointer (some ⟨g, 0, none⟩), .int .i64 (i : Nat)] V' fun e w => e = .returned pi ∧ V' = w) := fun P V' hP => by
        rw [← hpi]
        exact down_opt V' (hSV V' hP.1) HM.out HPS.out (by rw [HN.out]; exact hi)
      have CG : Hid (∀ V', Touch [] V V' → Calls Tryz.prog 82 #[pi, .slice A cur.length c] V' fun e w => ∃ A2 c2, e = .returned (.slice A2 cur2.length c2) ∧ ItRow w b (.slice A2 cur2.length c2) cur2 ∧ Touch lst V' w ∧ ∀ k, (Value.slice A2 cur2.length c2).ownBlock = some k → k ∈ lst ∨ V.heap.size ≤ k) := fun V' t => by
        have ts := t.size
        rw [← hpi]
        refine (HGC.out i (by rw [HN.out]; exact hi) V' A c cur ((HSr.out.new tV).new t) (by omega) (t.row (tV.row HO.out (by simp)) (by simp)) (by omega)).mono ?_
        rintro e w ⟨A2, c2, rfl, z1, z2, z3⟩
        rw [hcur2] at z1 z3 ⊢
        rw [hlst] at z2
        exact ⟨A2, c2, rfl, z1, z2, row_new hlst ts z3⟩
      have HC2 := Lib.hid hcur2
      have HLS := Lib.hid hlst
      have HLB := Lib.hid hlb
      have HTV := Lib.hid tV
      have HHI := Lib.hid hi
      have HLT : Hid (i < nn) := hlt
      have HSZ := Lib.hid hsz
      clear hlst hlb tV hi hSV hlen hlen2 hpi bx0 bx1 hN hbl hlt' hcur2
      go_upto_region 6 with fail
      go_region_held3 (fun w' => Touch lst V w' ∧ w'.cell? ⟨wr.heap.size, 0, none⟩ = some (.string xk) ∧ w'.cell? ⟨wr.heap.size, 1, none⟩ = some (.string xv)) ((first | assumption | exact kept_start HSS.out | exact kept_alloc HSS.out _ (by assumption) | exact kept_touch HSS.out ht2 (by assumption) | exact kept_grown HSS.out HRW2.out hg3 (by assumption)))
        (first
          | (go_at_call 101; (with_reducible refine (CDN.out _ _ (by assumption)).mono ?_); rintro e w1 ⟨rfl, rfl⟩)
          | (go_at_call 82; (with_reducible refine (CG.out _ ((Touch.refl _ _).drew)).mono ?_); rintro e w2 ⟨A2, c2, rfl, ho2, ht2, hr2⟩; have HT2 : Hid (Touch lst V w2) := ((Touch.refl _ _).drew).trans ht2 (fun _ hx => .inl hx); have HO2 := Lib.hid ho2; have HRW2 := Lib.hid hr2; clear ho2 hr2)
          | (go_at_call 82; (with_reducible refine (CG.out _ (((Touch.refl _ _).alloc _).drew)).mono ?_); rintro e w2 ⟨A2, c2, rfl, ho2, ht2, hr2⟩; have HT2 : Hid (Touch lst V w2) := (((Touch.refl _ _).alloc _).drew).trans ht2 (fun _ hx => .inl hx); have HO2 := Lib.hid ho2; have HRW2 := Lib.hid hr2; clear ho2 hr2)
          | (refine step_append_any (by rfl) (.tmp 24) (.tmp 26) 22 (by rfl) b 31 i0 (.agg #[.string ⟨#[]⟩, .string ⟨#[]⟩]) 2 32 Tryz.underlying22 hi0 hz0 hs0 hb0 rfl (by decide) (.slice A2 cur2.length c2) cur2.length (itemCells cur2) (by rfl) (HO2.out.alloc _) (.slice (some ⟨w2.heap.size, 0, none⟩) 1 1) 1 (itemCells [(xk, xv)]) (by rfl) (item_src _ _ xk xv (heap_alloc_new _ _)) (items_one _) (by unfold maxLen; omega) (by omega) (Nat.le_trans hb (Nat.le_trans hsz (Nat.le_trans (HTV.out.size) (Nat.le_trans HT2.out.size ((Touch.refl [] w2).alloc _).size)))) ?_; intro A3 c3 w3 ho3 hg3 hs3; have HT3 : Hid (Touch lst V w3) := (HT2.out.alloc _).grown hg3 HRW2.out; have HO3 := Lib.hid (item_push ho3 rfl); have HS3 := Lib.hid (row_next HRW2.out (Nat.le_trans HT2.out.size ((Touch.refl [] w2).alloc _).size) hs3); clear ho3 hs3)
          | (refine step_append_any (by rfl) (.tmp 24) (.tmp 26) 22 (by rfl) b 31 i0 (.agg #[.string ⟨#[]⟩, .string ⟨#[]⟩]) 2 32 Tryz.underlying22 hi0 hz0 hs0 hb0 rfl (by decide) (.slice A2 cur2.length c2) cur2.length (itemCells cur2) (by rfl) (HO2.out) (.slice (some ⟨wr.heap.size + 1, 0, none⟩) 1 1) 1 (itemCells [(xk, xv)]) (by rfl) (item_src _ _ xk xv (src_late ht2 HLB.out hzV)) (items_one _) (by unfold maxLen; omega) (by omega) (Nat.le_trans hb (Nat.le_trans hsz (Nat.le_trans (HTV.out.size) HT2.out.size))) ?_; intro A3 c3 w3 ho3 hg3 hs3; have HT3 : Hid (Touch lst V w3) := HT2.out.grown hg3 HRW2.out; have HO3 := Lib.hid (item_push ho3 rfl); have HS3 := Lib.hid (row_next HRW2.out HT2.out.size hs3); clear ho3 hs3))
      all_goals
        go_wp2_with fail
        go_roundg (gk - 1)
        case measure => omega
        case rel => exact ⟨i + 1, A3, c3, cur2 ++ [(xk, xv)], by omega, by omega, by rw [List.length_append]; rfl, by go_num, gather_on HW.out HC2.out HCS.out HX.out, HO3.out, (HT.out.trans HTV.out (by simp)).trans HT3.out (fun k hk => lst_old HLS.out HSN.out k hk), by rw [List.length_append]; exact own_on HLS.out HSN.out (Nat.le_trans HSZ.out HTV.out.size) HS3.out⟩
    · obtain rfl : i = nn := by omega
      have hlast : cur ++ chl cs i = l0 ++ weave cs its := by
        have h := HW.out
        rw [← HN.out, weave_last HCS.out, HN.out] at h
        exact h
      have hlen := congrArg List.length hlast
      simp only [List.length_append] at hlen
      have fp := (HT.out.cell (p := ⟨g, 0, none⟩) hgl (fun e => by have := HV0.out g e; omega)).trans f0
      obtain ⟨pi, hpi⟩ : ∃ pi, optPtr ps[i]? = pi := ⟨_, rfl⟩
      have CDN : Hid (∀ V', Touch [] wr V' → Calls Tryz.prog 101 #[.pointer (some ⟨g, 0, none⟩), .int .i64 (i : Nat)] V' fun e w => e = .returned pi ∧ V' = w) := fun V' hV => by
        rw [← hpi]
        exact down_opt V' (HSr.out.new hV) HM.out HPS.out (by rw [HN.out]; exact hi)
      have CG : Hid (∀ V', Touch [] wr V' → Calls Tryz.prog 82 #[pi, .slice A cur.length c] V' fun e w => ∃ A2 c2, e = .returned (.slice A2 (l0 ++ weave cs its).length c2) ∧ GPost W b (.slice A0 l0.length c0) l0 (weave cs its) (.returned (.slice A2 (l0 ++ weave cs its).length c2)) w) := fun V' t => by
        have ts := t.size
        rw [← hpi]
        refine (HGC.out i (by rw [HN.out]; exact hi) V' A c cur (HSr.out.new t) (by omega) (t.row HO.out (by simp)) (by omega)).mono ?_
        rintro e w ⟨A2, c2, rfl, z1, z2, z3⟩
        rw [hlast] at z1 z3 ⊢
        refine ⟨A2, c2, rfl, A2, c2, rfl, z1, (HT.out.trans t (by simp)).trans z2 (fun k hk => lst_old rfl HSN.out k hk), fun k e => ?_⟩
        rcases z3 k e with z | z
        · exact HSN.out k z
        · exact .inr (by omega)
      have HHI := Lib.hid hi
      clear hN hbl hlt hi hlen hlast hpi
      go_wp2_with (first
        | (go_at_call 101; ((with_reducible refine (CDN.out _ (Touch.refl _ _)).mono ?_); rintro e w5 ⟨rfl, rfl⟩))
        | (go_at_call 82; ((with_reducible refine (CG.out _ (Touch.refl _ _)).mono ?_); rintro e w5 ⟨A2, c2, rfl, hG⟩; have HG := Lib.hid hG; clear hG)))
      go_ret
      have h := HG.out
      rw [List.length_append] at h
      exact h
theorem gather_sub {m : NMap} {F : List Nat} {b : Nat} (hF : ∀ q ∈ F, q < b) : ∀ {h lo : Nat} {d : Ch}, Sub m h lo 6 d → 1 ≤ lo → ∀ (W : World) (A : Option Addr) (c : Nat) (l0 : List Item), Sto W m F → b ≤ W.heap.size → ItRow W b (.slice A l0.length c) l0 → l0.length + d.l.length ≤ 1000 →
    Calls Tryz.prog 82 #[.pointer (some ⟨d.g, 0, none⟩), .slice A l0.length c] W (GPost W b (.slice A l0.length c) l0 d.l) := by
  intro h
  induction h with
  | zero =>
    rintro lo d ⟨its, cs, hm, h1, h6, hk, hl, -⟩ hlo W A c l0 hS hb hR hlen
    rw [kids_zero] at hk
    subst hk
    rw [hl] at hlen ⊢
    exact gather_node hm (by omega) h6 rfl (.inl rfl) (fun i _ V A' c' l' _ _ hR' _ => gather_nil V b A' c' l' hR') W A c l0 hS hb hF hR hlen
  | succ h ih =>
    rintro lo d ⟨its, cs, hm, h1, h6, hk, hl, -⟩ hlo W A c l0 hS hb hR hlen
    rw [kids_succ] at hk
    obtain ⟨hc, hd⟩ := hk
    rw [hl] at hlen ⊢
    refine gather_node hm (by omega) h6 rfl (.inr hc) (fun i hi V A' c' l' hS' hb' hR' hl' => ?_) W A c l0 hS hb hF hR hlen
    have hi2 : i < cs.length := by omega
    have e1 : (cs.map Ch.g)[i]? = some cs[i].g := by rw [List.getElem?_map, List.getElem?_eq_getElem hi2]; rfl
    have e2 : chl cs i = cs[i].l := by rw [chl, List.getElem?_eq_getElem hi2]; rfl
    rw [e1, e2]
    rw [e2] at hl'
    exact ih (hd _ (List.getElem_mem hi2)) (by omega) V A' c' l' hS' hb' hR' hl'
end Go.Proofs.YthgndgoljchnfaaGreat
namespace Go.Proofs.YthgndgoljchnfaaGreat
open Go.RowKit

theorem items_end {W w : World} {l : List Item} {e : Ending} (h : GPost W W.heap.size (.slice none 0 0) [] l e w) : NewItems W l e w := by
  obtain ⟨A, c, h1, h2, h3, -⟩ := h
  exact ⟨A, c, h1, h2, h3.below (Nat.le_refl _) (fun x hx => by cases hx)⟩
set_option maxRecDepth 100000 in
set_option maxHeartbeats 1000000 in
theorem shItems_any {W : World} {gs : Nat} {most : Int} {l : List Item} {F : List Nat} (h : SH W gs most l F) :
    Calls Tryz.prog 45 #[.pointer (some ⟨gs, 0, none⟩)] W (NewItems W l) := by
  obtain ⟨top, m, F1, hX, hS, hgs, rfl, hT, hr, hlm, hm2⟩ := h
  have CR := Lib.hid (ready_any gs W hX)
  have c0 := hX.c0
  have CG : Hid (Calls Tryz.prog 82 #[optPtr top, .slice none 0 0] W (GPost W W.heap.size (.slice none 0 0) [] l)) := by
    cases top with
    | none =>
      have hl : l = [] := hT
      rw [hl]
      exact gather_nil W W.heap.size none 0 [] (World.ownsRow_nil _ _ _ _)
    | some t =>
      obtain ⟨h, I, s, hnd⟩ := hT
      exact gather_sub (fun q hq => hS.lt q hq) s (Nat.le_refl _) W none 0 [] hS (Nat.le_refl _) (World.ownsRow_nil _ _ _ _) (by simp; omega)
  obtain ⟨p0, hp0⟩ : ∃ p0, optPtr top = p0 := ⟨_, rfl⟩
  rw [hp0] at c0 CG
  clear hX hS hT hr hp0 hlm hm2 hgs
  go_enter Tryz.func45, Tryz.ntmps45
  go_wp2_with (first
    | (go_at_call 81; ((with_reducible refine (CR.out).mono ?_); rintro e w1 ⟨rfl, rfl⟩))
    | (go_at_call 82; ((with_reducible refine (CG.out).mono ?_); rintro e w1 hw; have HW := Lib.hid hw; obtain ⟨A, c, rfl, -⟩ := hw)))
  go_ret
  exact items_end HW.out
end Go.Proofs.YthgndgoljchnfaaGreat
namespace Go.Proofs.YthgndgoljchnfaaGreat
open Go.RowKit

/-- a list that grows in memory of the call's own -/
def Out (W wx : World) (A : Option Addr) (c : Nat) (cur : List Item) : Prop :=
  wx.ownsRow W.heap.size 31 2 (.slice A cur.length c) cur.length (itemCells cur) ∧ Below W.heap.size W wx
theorem Out.nil (W : World) : Out W W none 0 [] := ⟨World.ownsRow_nil _ _ _ _, Below.refl _ _⟩
theorem Out.below {W w w1 : World} {A : Option Addr} {c : Nat} {cur : List Item} (h : Out W w A c cur) (hb : Below w.heap.size w w1) : Out W w1 A c cur := ⟨(Touch.ofBelow (F := []) hb).row h.1 (by simp), acc h.2 hb⟩
end Go.Proofs.YthgndgoljchnfaaGreat
namespace Go.Proofs.YthgndgoljchnfaaGreat
open Go.RowKit

end Go.Proofs.YthgndgoljchnfaaGreat
