/-
  The walk of way: down from node to node, to a key or to where it would be put in.
-/
import Derived.Test.YtojiblhaiokdcaaShelfDepth
import Derived.Test.YtojiblhaiokdcaaAppendAny
namespace Go.Proofs.Ytojiblhaiokdcaa
open Go.RowKit

def stepCells (l : List (Nat × Nat)) : List Value := l.flatMap fun s => [Value.pointer (some ⟨s.1, 0, none⟩), Value.int .i64 (s.2 : Nat)]
theorem stepCells_append (a b : List (Nat × Nat)) : stepCells (a ++ b) = stepCells a ++ stepCells b := by simp [stepCells]
theorem stepCells_length : ∀ l : List (Nat × Nat), (stepCells l).length = l.length * 2
  | [] => rfl
  | x :: l => by rw [show x :: l = [x] ++ l from rfl, stepCells_append, List.length_append, stepCells_length l]; simp [stepCells]; omega
theorem steps_one : ∀ (l : List (Nat × Nat)), ∀ u ∈ stepCells l, u.oneCell' = true := by
  intro l u h
  obtain ⟨s, _, hs⟩ := List.mem_flatMap.1 h
  simp at hs
  rcases hs with rfl | rfl <;> rfl
theorem infoStep : ∃ i, Try.prog.info? 76 = some i ∧ i.zero = some (.agg #[.pointer none, .int .i64 0]) ∧ i.size = 2 ∧ i.bytes = 16 := by
  have h : (Try.prog.info? 76).map (fun i => (i.zero, i.size, i.bytes)) = some (some (.agg #[.pointer none, .int .i64 0]), 2, 16) := by kernel_rfl
  obtain ⟨i, hi, hx⟩ := Option.map_eq_some_iff.1 h
  simp only [Prod.mk.injEq] at hx
  exact ⟨i, hi, hx⟩
/-- the rows of steps that a call owns -/
abbrev WRow (W : World) (b : Nat) (v : Value) (l : List (Nat × Nat)) : Prop := W.ownsRow b 76 2 v l.length (stepCells l)
/-- what way answers -/
def WayPost (W : World) (m : NMap) (top : Option Nat) (l : List Item) (k : ByteArray) (e : Ending) (w : World) : Prop :=
  ∃ steps A c b, e = .returned (.tuple #[.slice A steps.length c, .bool b]) ∧ WRow w W.heap.size (.slice A steps.length c) steps ∧ Below W.heap.size W w ∧
    ((b = true ∧ ∃ st g i u, steps = st ++ [(g, i)] ∧ Found m top l k u st g i) ∨ (b = false ∧ Missing m top l k steps))
theorem way_push {w w' : World} {b n : Nat} {v v' : Value} {l : List (Nat × Nat)} {g i : Nat} (_h : WRow w b v l) (k : w'.ownsRow b 76 2 v' n (stepCells l ++ stepCells [(g, i)])) (hn : n = l.length + 1) : WRow w' b v' (l ++ [(g, i)]) := by
  subst hn
  rw [← stepCells_append] at k
  have e : (l ++ [(g, i)]).length = l.length + 1 := by simp
  show World.ownsRow _ _ _ _ _ _ _
  rw [e]; exact k
theorem wrow_len {w : World} {b c : Nat} {A : Option Addr} {l : List (Nat × Nat)} {x : Nat × Nat} (h : WRow w b (.slice A (l.length + 1) c) (l ++ [x])) : WRow w b (.slice A (l ++ [x]).length c) (l ++ [x]) := by
  have e : (l ++ [x]).length = l.length + 1 := by simp
  rw [e]; exact h
theorem step_src (Wc : World) (b g : Nat) (i : Int) (j : Nat) (hi : i = j) (hh : Wc.heap[b]? = some (.cells #[.pointer (some ⟨g, 0, none⟩), .int .i64 i] 76 (0, 0))) : From Wc 2 (.slice (some ⟨b, 0, none⟩) 1 1) 1 (stepCells [(g, j)]) := by
  subst hi
  refine .inr ⟨_, _, rfl, rfl, fun j' u hj => ?_⟩
  rw [Go.WideShapes.add_plain, Nat.zero_add, cell_of_row Wc b j' _ 76 (0, 0) hh]
  simpa [stepCells] using hj

set_option maxRecDepth 100000 in
set_option maxHeartbeats 4000000 in
theorem way_any {W : World} {gs : Nat} {top : Option Nat} {n most : Int} {m : NMap} {F : List Nat} {l : List Item} (k : ByteArray) (hX : ShX W gs top n most) (hS : Sto W m F) (hT : TreeIs m top l) (hr : Rising l) (hl : l.length ≤ 200) :
    Calls Try.prog 34 #[.pointer (some ⟨gs, 0, none⟩), .string k] W (WayPost W m top l k) := by
  have CR := Lib.hid (ready_any gs W hX)
  have c0 := hX.c0
  obtain ⟨i0, hi0, hz0, hs0, hb0⟩ := infoStep
  obtain ⟨p0, h0, hp0, hh0, hst⟩ : ∃ (p0 : Value) (h0 : Nat), optPtr top = p0 ∧ h0 ≤ 300 ∧ ((∃ p, p0 = .pointer (some ⟨p, 0, none⟩) ∧ AtNode m top l k [] p h0) ∨ (p0 = .pointer none ∧ Missing m top l k [])) := by
    cases top with
    | none => exact ⟨_, 0, rfl, by omega, .inr ⟨rfl, .inl ⟨rfl, rfl, hT⟩⟩⟩
    | some t =>
      obtain ⟨h, I, s, hnd⟩ := hT
      obtain ⟨d1, d2⟩ := high_deep s
      have d3 := log4_lt l.length
      rw [deepN, if_neg d2] at d1
      exact ⟨_, h, rfl, by omega, .inl ⟨t, rfl, AtNode.start s hnd⟩⟩
  rw [hp0] at c0
  have HST : Hid ((∃ p, p0 = .pointer (some ⟨p, 0, none⟩) ∧ AtNode m top l k [] p h0) ∨ (p0 = .pointer none ∧ Missing m top l k [])) := hst
  have HS := Lib.hid hS
  have HR := Lib.hid hr
  clear hX hS hT hr hst hp0
  go_enter Try.func34, Try.ntmps34
  go_wp2
  go_step3
  go_wp2_with (go_at_call 33; ((with_reducible refine (CR.out).mono ?_); rintro e w1 ⟨rfl, rfl⟩))
  go_step3
  go_wp2
  go_loopg [6, 7] (h0 + 3) (fun gh s6 s7 wx => ∃ steps A c, s6 = .slice A steps.length c ∧ steps.length ≤ h0 + 1 ∧ Hid (WRow wx W.heap.size (.slice A steps.length c) steps) ∧ Hid (Below W.heap.size W wx) ∧ ((∃ p h, s7 = .pointer (some ⟨p, 0, none⟩) ∧ Hid (AtNode m top l k steps p h) ∧ steps.length + h = h0 ∧ h + 2 ≤ gh) ∨ (s7 = .pointer none ∧ Hid (Missing m top l k steps) ∧ 1 ≤ gh)))
  case atStart =>
    rcases HST.out with ⟨p, rfl, hA⟩ | ⟨rfl, hM⟩
    · exact ⟨[], none, 0, rfl, by simp, World.ownsRow_nil _ _ _ _, Below.refl _ _, .inl ⟨p, h0, rfl, hA, by simp, by omega⟩⟩
    · exact ⟨[], none, 0, rfl, by simp, World.ownsRow_nil _ _ _ _, Below.refl _ _, .inr ⟨rfl, hM, by omega⟩⟩
  case round =>
    obtain ⟨steps, A, c, rfl, hsl, HO, HB, hcase⟩ := hrel
    rcases hcase with ⟨p, h, rfl, HA, hsh, hgh⟩ | ⟨rfl, HM, hgh⟩
    · obtain ⟨wo, rfl⟩ : ∃ wo : World, wo = wr := ⟨_, rfl⟩
      obtain ⟨go, rfl⟩ : ∃ go, go = gk := ⟨_, rfl⟩
      obtain ⟨its, ps, e1, hri, n1, n6, hps, hfound, hdown⟩ := HA.out.step HR.out
      have hSo : Hid (Sto wo m F) := HS.out.below HB.out
      obtain ⟨v, u, hN, -, -⟩ := hSo.out.at e1
      have hN : NdX wo p its ps v u := hN
      obtain ⟨q, cq, rfl, hq1, hq2⟩ := row_at hN.r0 (by omega)
      have f0 := hN.c0
      have hpl := hN.lt
      have hpW : p < W.heap.size := HS.out.lt p (HS.out.mem e1)
      have hql : q < wo.heap.size := (hN.r0.lt q rfl).2
      have HROW : Hid (Row wo (.slice (some ⟨q, 0, none⟩) its.length cq) its) := hN.r0
      have CDN : Hid (∀ V j, Below W.heap.size W V → (ps = [] → Calls Try.prog 52 #[.pointer (some ⟨p, 0, none⟩), .int .i64 (j : Nat)] V fun e w => e = .returned (.pointer none) ∧ V = w) ∧
          (∀ q, ps[j]? = some q → Calls Try.prog 52 #[.pointer (some ⟨p, 0, none⟩), .int .i64 (j : Nat)] V fun e w => e = .returned (.pointer (some ⟨q, 0, none⟩)) ∧ V = w)) := fun V j hV => down_sto V (HS.out.below hV) e1 (by rcases hps with ⟨_, z⟩ | z; rw [z]; simp; omega)
      have HPS := Lib.hid hps
      have HF := Lib.hid hfound
      have HDN := Lib.hid hdown
      have HRI := Lib.hid hri
      obtain ⟨nn, hn⟩ : ∃ nn, its.length = nn := ⟨_, rfl⟩
      have HN := Lib.hid hn
      have HE1 := Lib.hid e1
      rw [hn] at f0 n6 hq1
      clear hN hq2 hps hfound hdown hri hn n1 e1
      go_wp2_with fail
      go_loopg [6, 7, 24] (nn + 1) (fun gi s6 s7 s24 wy => ∃ i, i + gi = nn + 1 ∧ i ≤ nn ∧ s6 = .slice A steps.length c ∧ s7 = .pointer (some ⟨p, 0, none⟩) ∧ s24 = .int .i64 (i : Nat) ∧ Hid (Under (its.take i) k) ∧ Hid (WRow wy W.heap.size (.slice A steps.length c) steps) ∧ Hid (Below wo.heap.size wo wy))
      case atStart => exact ⟨0, by omega, by omega, rfl, rfl, rfl, (fun x hx => by simp at hx), HO.out, Below.refl _ _⟩
      case round =>
        obtain ⟨i, hig, hi, rfl, rfl, rfl, HU, HO2, HBy⟩ := hrel
        have hsz := HBy.out.size
        by_cases hlt : i < nn
        · have hlt' : i < its.length := by rw [HN.out]; exact hlt
          have ck := (HBy.out.cell (p := ⟨q, i * 2, none⟩) hql).trans ((HROW.out.cellAt (i * 2) (by omega)).trans (itemCells_get0 its i hlt'))
          have cv := (HBy.out.cell (p := ⟨q, i * 2 + 1, none⟩) hql).trans ((HROW.out.cellAt (i * 2 + 1) (by omega)).trans (itemCells_get1 its i hlt'))
          have HX : Hid (its[i]? = some its[i]) := List.getElem?_eq_getElem hlt'
          have i1 : (i : Int) < (nn : Int) := by omega
          have hqr : q < wr.heap.size := by omega
          have hpr : p < wr.heap.size := by omega
          have fp := (HBy.out.cell (p := ⟨p, 0, none⟩) hpl).trans f0
          have HBW : Hid (Below W.heap.size W wr) := HB.out.trans (HBy.out.mono HB.out.size)
          have HI := Lib.hid hi
          have HLT := Lib.hid hlt'
          generalize its[i] = x at *
          clear hi hlt hlt'
          obtain ⟨xk, xv⟩ := x
          have LC := Lib.hid (fun W1 => less_any xk k W1)
          cases hx : Op.bytesLess xk.toList k.toList
          · rw [hx] at LC
            have HXL : Hid (lessB xk k = false) := hx
            clear hx
            cases hb : (xk.toList == k.toList)
            · -- the key lies ahead of this item: on in the part ahead of it
              have hk : Over (its.drop i) k := by
                have h1 : lessB k xk = true := by
                  rcases lessB_total (a := xk) (b := k) (fun e => by rw [e] at hb; simp at hb) with z | z
                  · rw [HXL.out] at z; cases z
                  · exact z
                have h2 := list_at HX.out
                have h3 := HRI.out
                rw [h2] at h3
                obtain ⟨_, h4, _⟩ := rising_append.1 h3
                have h5 : its.drop i = (xk, xv) :: its.drop (i + 1) := by
                  obtain ⟨hi9, he⟩ := List.getElem?_eq_some_iff.1 HX.out
                  rw [← he]; exact List.drop_eq_getElem_cons hi9
                rw [h5]
                intro y hy
                rcases List.mem_cons.1 hy with rfl | hy
                · exact h1
                · exact lessB_trans h1 ((rising_cons.1 h4).1 y hy)
              have HK := Lib.hid hk
              clear hk
              rcases HPS.out with ⟨hz, hp⟩ | hp
              · have CD2 : Hid (∀ V, Below W.heap.size W V → Calls Try.prog 52 #[.pointer (some ⟨p, 0, none⟩), .int .i64 (i : Nat)] V fun e w => e = .returned (.pointer none) ∧ V = w) := fun V hV => (CDN.out V i hV).1 hp
                have HMS := Lib.hid ((HDN.out i (by have := HLT.out; omega) HU.out HK.out).1 hp)
                clear hp hz
                go_wp2_with (first
                  | (go_at_call 51; ((with_reducible refine (LC.out _).mono ?_); rintro e w3 ⟨rfl, rfl⟩))
                  | (at_builtin; go_must (refine wpList_append_any rfl (.tmp 33) (.tmp 37) 71 rfl W.heap.size 76 i0 (.agg #[.pointer none, .int .i64 0]) 2 16 Try.underlying71 hi0 hz0 hs0 hb0 rfl (by decide) (.slice A steps.length c) steps.length (stepCells steps) rfl ((HO2.out.alloc _).alloc _) (.slice (some ⟨wr.heap.size + 1, 0, none⟩) 1 1) 1 (stepCells [(p, i)]) rfl (step_src _ _ p _ i rfl (heap_alloc2_new _ _ _)) (steps_one _) (by unfold maxLen; omega) (by omega) (by have := HBW.out.size; simp; omega) ?_); intro A2 c2 w4 ho4 hg4 _; have HO4 := Lib.hid (way_push HO2.out ho4 rfl); have HB4 : Hid (Below W.heap.size W w4) := own_below ((HO2.out.alloc _).alloc _) ((HBW.out.alloc (by have := HBW.out.size; omega) _).alloc (by have := HBW.out.size; simp; omega) _) (by have := HBW.out.size; simp; omega) hg4; have bx4 := hg4.cell (a := ⟨wr.heap.size, 0, none⟩) (v := .string xk) (by go_simp) (fun e => Nat.lt_irrefl _ (HO2.out.lt _ e.symm).2); clear ho4 hg4)
                  | (go_at_call 52; ((with_reducible refine (CD2.out _ HB4.out).mono ?_); rintro e w5 ⟨rfl, rfl⟩)))
                go_roundg (go - 1)
                case measure => omega
                case rel => exact ⟨steps ++ [(p, i)], A2, c2, by rw [List.length_append]; rfl, by simp; omega, wrow_len HO4.out, HB4.out, .inr ⟨rfl, HMS.out, by omega⟩⟩
              · obtain ⟨q', hq'⟩ : ∃ q', ps[i]? = some q' := ⟨ps[i]'(by have := HLT.out; omega), List.getElem?_eq_getElem _⟩
                have CD2 : Hid (∀ V, Below W.heap.size W V → Calls Try.prog 52 #[.pointer (some ⟨p, 0, none⟩), .int .i64 (i : Nat)] V fun e w => e = .returned (.pointer (some ⟨q', 0, none⟩)) ∧ V = w) := fun V hV => (CDN.out V i hV).2 q' hq'
                obtain ⟨hh, hat⟩ := (HDN.out i (by have := HLT.out; omega) HU.out HK.out).2 q' hq'
                have HAT := Lib.hid hat
                clear hp hq' hat
                go_wp2_with (first
                  | (go_at_call 51; ((with_reducible refine (LC.out _).mono ?_); rintro e w3 ⟨rfl, rfl⟩))
                  | (at_builtin; go_must (refine wpList_append_any rfl (.tmp 33) (.tmp 37) 71 rfl W.heap.size 76 i0 (.agg #[.pointer none, .int .i64 0]) 2 16 Try.underlying71 hi0 hz0 hs0 hb0 rfl (by decide) (.slice A steps.length c) steps.length (stepCells steps) rfl ((HO2.out.alloc _).alloc _) (.slice (some ⟨wr.heap.size + 1, 0, none⟩) 1 1) 1 (stepCells [(p, i)]) rfl (step_src _ _ p _ i rfl (heap_alloc2_new _ _ _)) (steps_one _) (by unfold maxLen; omega) (by omega) (by have := HBW.out.size; simp; omega) ?_); intro A2 c2 w4 ho4 hg4 _; have HO4 := Lib.hid (way_push HO2.out ho4 rfl); have HB4 : Hid (Below W.heap.size W w4) := own_below ((HO2.out.alloc _).alloc _) ((HBW.out.alloc (by have := HBW.out.size; omega) _).alloc (by have := HBW.out.size; simp; omega) _) (by have := HBW.out.size; simp; omega) hg4; have bx4 := hg4.cell (a := ⟨wr.heap.size, 0, none⟩) (v := .string xk) (by go_simp) (fun e => Nat.lt_irrefl _ (HO2.out.lt _ e.symm).2); clear ho4 hg4)
                  | (go_at_call 52; ((with_reducible refine (CD2.out _ HB4.out).mono ?_); rintro e w5 ⟨rfl, rfl⟩)))
                go_roundg (go - 1)
                case measure => omega
                case rel => exact ⟨steps ++ [(p, i)], A2, c2, by rw [List.length_append]; rfl, by simp; omega, wrow_len HO4.out, HB4.out, .inl ⟨q', h - 1, rfl, HAT.out, by simp; omega, by omega⟩⟩
            · have hkey : xk = k := toList_inj (by simpa using hb)
              have HFD := Lib.hid (HF.out i (xk, xv) HX.out HU.out hkey)
              clear hkey
              go_wp2_with (first
                | (go_at_call 51; ((with_reducible refine (LC.out _).mono ?_); rintro e w3 ⟨rfl, rfl⟩))
                | (at_builtin; go_must (refine wpList_append_any rfl (.tmp 33) (.tmp 37) 71 rfl W.heap.size 76 i0 (.agg #[.pointer none, .int .i64 0]) 2 16 Try.underlying71 hi0 hz0 hs0 hb0 rfl (by decide) (.slice A steps.length c) steps.length (stepCells steps) rfl ((HO2.out.alloc _).alloc _) (.slice (some ⟨wr.heap.size + 1, 0, none⟩) 1 1) 1 (stepCells [(p, i)]) rfl (step_src _ _ p _ i rfl (heap_alloc2_new _ _ _)) (steps_one _) (by unfold maxLen; omega) (by omega) (by have := HBW.out.size; simp; omega) ?_); intro A2 c2 w4 ho4 hg4 _; have HO4 := Lib.hid (way_push HO2.out ho4 rfl); have HB4 : Hid (Below W.heap.size W w4) := own_below ((HO2.out.alloc _).alloc _) ((HBW.out.alloc (by have := HBW.out.size; omega) _).alloc (by have := HBW.out.size; simp; omega) _) (by have := HBW.out.size; simp; omega) hg4; have bx4 := hg4.cell (a := ⟨wr.heap.size, 0, none⟩) (v := .string xk) (by go_simp) (fun e => Nat.lt_irrefl _ (HO2.out.lt _ e.symm).2); clear ho4 hg4))
              rw [Exit.noGoto_ret]
              go_ret2
              exact ⟨steps ++ [(p, i)], A2, c2, true, by rw [List.length_append]; rfl, wrow_len HO4.out, HB4.out, .inl ⟨rfl, steps, p, i, xv, rfl, HFD.out⟩⟩
          · rw [hx] at LC
            have HXL : Hid (lessB xk k = true) := hx
            clear hx
            go_wp2_with (go_at_call 51; ((with_reducible refine (LC.out _).mono ?_); rintro e w3 ⟨rfl, rfl⟩))
            go_roundg (gk - 1)
            case measure => omega
            case rel => exact ⟨i + 1, by omega, by have := HLT.out; have := HN.out; omega, rfl, rfl, by go_num, by rw [List.take_add_one, HX.out]; exact Under.append HU.out (fun y hy => by simp at hy; rw [hy]; exact HXL.out), HO2.out.alloc _, HBy.out.alloc (by omega) _⟩
        · obtain rfl : i = nn := by omega
          have hpr : p < wr.heap.size := by omega
          have fp := (HBy.out.cell (p := ⟨p, 0, none⟩) hpl).trans f0
          have HBW : Hid (Below W.heap.size W wr) := HB.out.trans (HBy.out.mono HB.out.size)
          have HK : Hid (Over (its.drop i) k) := by
            have e : its.drop i = [] := List.drop_of_length_le (by rw [HN.out]; omega)
            show Over _ k
            rw [e]; exact fun y hy => by cases hy
          have hli : i ≤ its.length := by rw [HN.out]; omega
          have HLI := Lib.hid hli
          clear hli hi hlt
          rcases HPS.out with ⟨hz, hp⟩ | hp
          · have CD2 : Hid (∀ V, Below W.heap.size W V → Calls Try.prog 52 #[.pointer (some ⟨p, 0, none⟩), .int .i64 (i : Nat)] V fun e w => e = .returned (.pointer none) ∧ V = w) := fun V hV => (CDN.out V i hV).1 hp
            have HMS := Lib.hid ((HDN.out i HLI.out HU.out HK.out).1 hp)
            clear hp hz
            go_wp2_with (first
              | (at_builtin; go_must (refine wpList_append_any rfl (.tmp 48) (.tmp 56) 71 rfl W.heap.size 76 i0 (.agg #[.pointer none, .int .i64 0]) 2 16 Try.underlying71 hi0 hz0 hs0 hb0 rfl (by decide) (.slice A steps.length c) steps.length (stepCells steps) rfl (HO2.out.alloc _) (.slice (some ⟨wr.heap.size, 0, none⟩) 1 1) 1 (stepCells [(p, i)]) rfl (step_src _ _ p _ i rfl (heap_alloc_new _ _)) (steps_one _) (by unfold maxLen; omega) (by omega) (by have := HBW.out.size; simp; omega) ?_); intro A2 c2 w4 ho4 hg4 _; have HO4 := Lib.hid (way_push HO2.out ho4 rfl); have HB4 : Hid (Below W.heap.size W w4) := own_below (HO2.out.alloc _) (HBW.out.alloc (by have := HBW.out.size; omega) _) (by have := HBW.out.size; simp; omega) hg4; have fp4 := hg4.cell (a := ⟨p, 0, none⟩) (v := .slice (some ⟨q, 0, none⟩) i cq) (by go_simp) (fun e => absurd (HO2.out.lt _ e.symm).1 (Nat.not_le.2 hpW)); clear ho4 hg4)
              | (go_at_call 52; ((with_reducible refine (CD2.out _ HB4.out).mono ?_); rintro e w5 ⟨rfl, rfl⟩)))
            go_roundg (go - 1)
            case measure => omega
            case rel => exact ⟨steps ++ [(p, i)], A2, c2, by rw [List.length_append]; rfl, by simp; omega, wrow_len HO4.out, HB4.out, .inr ⟨rfl, HMS.out, by omega⟩⟩
          · obtain ⟨q', hq'⟩ : ∃ q', ps[i]? = some q' := ⟨ps[i]'(by have := HN.out; omega), List.getElem?_eq_getElem _⟩
            have CD2 : Hid (∀ V, Below W.heap.size W V → Calls Try.prog 52 #[.pointer (some ⟨p, 0, none⟩), .int .i64 (i : Nat)] V fun e w => e = .returned (.pointer (some ⟨q', 0, none⟩)) ∧ V = w) := fun V hV => (CDN.out V i hV).2 q' hq'
            obtain ⟨hh, hat⟩ := (HDN.out i HLI.out HU.out HK.out).2 q' hq'
            have HAT := Lib.hid hat
            clear hp hq' hat
            go_wp2_with (first
              | (at_builtin; go_must (refine wpList_append_any rfl (.tmp 48) (.tmp 56) 71 rfl W.heap.size 76 i0 (.agg #[.pointer none, .int .i64 0]) 2 16 Try.underlying71 hi0 hz0 hs0 hb0 rfl (by decide) (.slice A steps.length c) steps.length (stepCells steps) rfl (HO2.out.alloc _) (.slice (some ⟨wr.heap.size, 0, none⟩) 1 1) 1 (stepCells [(p, i)]) rfl (step_src _ _ p _ i rfl (heap_alloc_new _ _)) (steps_one _) (by unfold maxLen; omega) (by omega) (by have := HBW.out.size; simp; omega) ?_); intro A2 c2 w4 ho4 hg4 _; have HO4 := Lib.hid (way_push HO2.out ho4 rfl); have HB4 : Hid (Below W.heap.size W w4) := own_below (HO2.out.alloc _) (HBW.out.alloc (by have := HBW.out.size; omega) _) (by have := HBW.out.size; simp; omega) hg4; have fp4 := hg4.cell (a := ⟨p, 0, none⟩) (v := .slice (some ⟨q, 0, none⟩) i cq) (by go_simp) (fun e => absurd (HO2.out.lt _ e.symm).1 (Nat.not_le.2 hpW)); clear ho4 hg4)
              | (go_at_call 52; ((with_reducible refine (CD2.out _ HB4.out).mono ?_); rintro e w5 ⟨rfl, rfl⟩)))
            go_roundg (go - 1)
            case measure => omega
            case rel => exact ⟨steps ++ [(p, i)], A2, c2, by rw [List.length_append]; rfl, by simp; omega, wrow_len HO4.out, HB4.out, .inl ⟨q', h - 1, rfl, HAT.out, by simp; omega, by omega⟩⟩
    · go_wp2_with fail
      rw [Exit.noGoto_ret]
      go_ret2
      exact ⟨steps, A, c, false, rfl, HO.out, HB.out, .inr ⟨rfl, HM.out⟩⟩
end Go.Proofs.Ytojiblhaiokdcaa
