/-
  The library's slices.SortFunc over a row of arcs that a hold owns: they are there, by where they begin rising (the kit's contract, laid at this program in plain words). (Written by tools/genOS.py.)
  The code's words on two arcs: what may be put together, and what comes of it. (Written by tools/genHJ.py.)
-/
import Derived.Test.YthgndgoljchnfaaGreatHg06
import Derived.Shelf.SlSortCmp.WholeK
namespace Go.Proofs.YthgndgoljchnfaaGreat
open Go.RowKit

def sortOw_ren : Go.Shelf.Ren := ⟨fun | 6 => 66 | 15 => 92 | 14 => 91 | 28 => 113 | 29 => 114 | 20 => 105 | 21 => 106 | 22 => 107 | 23 => 108 | 24 => 109 | 25 => 110 | 26 => 111 | 27 => 112 | 46 => 124 | 47 => 125 | 48 => 126 | 49 => 127 | 50 => 128 | 57 => 135 | n => n, fun | 22 => 57 | 24 => 60 | 25 => 106 | 3 => 3 | 39 => 135 | 0 => 0 | 53 => 164 | 55 => 23 | 4 => 4 | 46 => 158 | 45 => 157 | 50 => 110 | 5 => 5 | 9 => 9 | 66 => 172 | 70 => 176 | 76 => 184 | 77 => 185 | n => n, fun | n => n⟩
theorem sortOw : Go.Proofs.SlLaysF0.n6 Tryz.prog sortOw_ren :=
  { mixed := by kernel_rfl
    f6 := ⟨"slices.SortFunc[[]rosary/api.Owned,rosary/api.Owned]", by decide, Tryz.func66.trans (congrArg some (by kernel_rfl))⟩
    f14 := ⟨"slices.pdqsortCmpFunc[rosary/api.Owned]", by decide, Tryz.func91.trans (congrArg some (by kernel_rfl))⟩
    f15 := Tryz.func92.trans (congrArg some (by kernel_rfl))
    f20 := ⟨"slices.insertionSortCmpFunc[rosary/api.Owned]", by decide, Tryz.func105.trans (congrArg some (by kernel_rfl))⟩
    f21 := ⟨"slices.heapSortCmpFunc[rosary/api.Owned]", by decide, Tryz.func106.trans (congrArg some (by kernel_rfl))⟩
    f22 := ⟨"slices.breakPatternsCmpFunc[rosary/api.Owned]", by decide, Tryz.func107.trans (congrArg some (by kernel_rfl))⟩
    f23 := ⟨"slices.choosePivotCmpFunc[rosary/api.Owned]", by decide, Tryz.func108.trans (congrArg some (by kernel_rfl))⟩
    f24 := ⟨"slices.reverseRangeCmpFunc[rosary/api.Owned]", by decide, Tryz.func109.trans (congrArg some (by kernel_rfl))⟩
    f25 := ⟨"slices.partialInsertionSortCmpFunc[rosary/api.Owned]", by decide, Tryz.func110.trans (congrArg some (by kernel_rfl))⟩
    f26 := ⟨"slices.partitionEqualCmpFunc[rosary/api.Owned]", by decide, Tryz.func111.trans (congrArg some (by kernel_rfl))⟩
    f27 := ⟨"slices.partitionCmpFunc[rosary/api.Owned]", by decide, Tryz.func112.trans (congrArg some (by kernel_rfl))⟩
    f28 := Tryz.func113.trans (congrArg some (by kernel_rfl))
    f29 := Tryz.func114.trans (congrArg some (by kernel_rfl))
    f46 := ⟨"slices.siftDownCmpFunc[rosary/api.Owned]", by decide, Tryz.func124.trans (congrArg some (by kernel_rfl))⟩
    f47 := Tryz.func125.trans (congrArg some (by kernel_rfl))
    f48 := Tryz.func126.trans (congrArg some (by kernel_rfl))
    f49 := ⟨"slices.medianAdjacentCmpFunc[rosary/api.Owned]", by decide, Tryz.func127.trans (congrArg some (by kernel_rfl))⟩
    f50 := ⟨"slices.medianCmpFunc[rosary/api.Owned]", by decide, Tryz.func128.trans (congrArg some (by kernel_rfl))⟩
    f57 := ⟨"slices.order2CmpFunc[rosary/api.Owned]", by decide, Tryz.func135.trans (congrArg some (by kernel_rfl))⟩
    t0 := Tryz.underlying0
    a0 := Tryz.isAgg0
    z0 := Tryz.sizeOf0
    v0 := Tryz.zeroValue0
    t3 := Tryz.underlying3
    a3 := Tryz.isAgg3
    z3 := Tryz.sizeOf3
    v3 := Tryz.zeroValue3
    t4 := Tryz.underlying4
    a4 := Tryz.isAgg4
    z4 := Tryz.sizeOf4
    v4 := Tryz.zeroValue4
    t5 := Tryz.underlying5
    a5 := Tryz.isAgg5
    z5 := Tryz.sizeOf5
    v5 := Tryz.zeroValue5
    t9 := Tryz.underlying9
    a9 := Tryz.isAgg9
    z9 := Tryz.sizeOf9
    v9 := Tryz.zeroValue9
    t22 := Tryz.underlying57
    a22 := Tryz.isAgg57
    z22 := Tryz.sizeOf57
    v22 := Tryz.zeroValue57
    t25 := Tryz.underlying106
    a25 := Tryz.isAgg106
    z25 := Tryz.sizeOf106
    v25 := Tryz.zeroValue106
    t39 := Tryz.underlying135
    a39 := Tryz.isAgg135
    z39 := Tryz.sizeOf135
    v39 := Tryz.zeroValue135
    t45 := Tryz.underlying157
    a45 := Tryz.isAgg157
    z45 := Tryz.sizeOf157
    v45 := Tryz.zeroValue157
    t46 := Tryz.underlying158
    a46 := Tryz.isAgg158
    z46 := Tryz.sizeOf158
    v46 := Tryz.zeroValue158
    t50 := Tryz.underlying110
    a50 := Tryz.isAgg110
    z50 := Tryz.sizeOf110
    v50 := Tryz.zeroValue110
    t53 := Tryz.underlying164
    a53 := Tryz.isAgg164
    z53 := Tryz.sizeOf164
    v53 := Tryz.zeroValue164
    t55 := Tryz.underlying23
    a55 := Tryz.isAgg23
    z55 := Tryz.sizeOf23
    v55 := Tryz.zeroValue23
    t66 := Tryz.underlying172
    a66 := Tryz.isAgg172
    z66 := Tryz.sizeOf172
    v66 := Tryz.zeroValue172
    t70 := Tryz.underlying176
    a70 := Tryz.isAgg176
    z70 := Tryz.sizeOf176
    v70 := Tryz.zeroValue176
    t76 := Tryz.underlying184
    a76 := Tryz.isAgg184
    z76 := Tryz.sizeOf184
    v76 := Tryz.zeroValue184
    t77 := Tryz.underlying185
    a77 := Tryz.isAgg185
    z77 := Tryz.sizeOf185
    v77 := Tryz.zeroValue185 }
instance : Inhabited AO := ⟨⟨0, 0, 0, 0⟩⟩
/-- which comes first -/
def cfO (x y : AO) : Int := if x.f < y.f then -1 else if y.f < x.f then 1 else 0
theorem ltO (x y : AO) : ltOf cfO x y = decide (x.f < y.f) := by
  unfold ltOf cfO
  by_cases h1 : x.f < y.f
  · simp [h1]
  · by_cases h2 : y.f < x.f <;> simp [h1, h2]
theorem swoO : Go.Sort.SWO (ltOf cfO) where
  irrefl x := by rw [ltO]; simp
  trans x y z h1 h2 := by rw [ltO] at *; simp at *; omega
  ntrans x y z h1 h2 := by rw [ltO] at *; simp at *; omega
abbrev eK (nd : Int) (p : AO) : List Value := (oC nd p).toList
set_option maxHeartbeats 1000000 in
theorem nanU_any (x : Nat) (W : World) : Calls Tryz.prog 93 #[.int .u64 (x : Nat)] W fun e w' => e = .returned (.bool false) ∧ w' = W := by
  have h : ((x : Int) != (x : Int)) = false := by simp
  go_enter Tryz.func93, Tryz.ntmps93
  go_wp2
  go_ret
  exact ⟨by simp, rfl⟩
set_option maxHeartbeats 1000000 in
theorem cmpU_any (x y : AO) (W : World) : Calls Tryz.prog 68 #[.int .u64 (x.f : Nat), .int .u64 (y.f : Nat)] W fun e w' => e = .returned (.int .i64 (cfO x y)) ∧ w' = W := by
  have C1 := Lib.hid (nanU_any x.f)
  have C2 := Lib.hid (nanU_any y.f)
  unfold cfO
  generalize x.f = a at *
  generalize y.f = b at *
  by_cases h1 : a < b
  · have d1 : decide (a < b) = true := decide_eq_true h1
    rw [if_pos h1]
    go_enter Tryz.func68, Tryz.ntmps68
    go_wp2_with (go_at_call 93; (first | (with_reducible refine (C1.out _).mono ?_) | (with_reducible refine (C2.out _).mono ?_)); rintro e w' ⟨rfl, rfl⟩)
    go_ret
    exact ⟨rfl, rfl⟩
  · have d1 : decide (a < b) = false := decide_eq_false h1
    rw [if_neg h1]
    by_cases h2 : b < a
    · have d2 : decide (b < a) = true := decide_eq_true h2
      have d3 : decide ((a : Int) > (b : Int)) = true := decide_eq_true (by omega)
      rw [if_pos h2]
      go_enter Tryz.func68, Tryz.ntmps68
      go_wp2_with (go_at_call 93; (first | (with_reducible refine (C1.out _).mono ?_) | (with_reducible refine (C2.out _).mono ?_)); rintro e w' ⟨rfl, rfl⟩)
      go_ret
      exact ⟨rfl, rfl⟩
    · have d2 : decide (b < a) = false := decide_eq_false h2
      have d3 : decide ((a : Int) > (b : Int)) = false := decide_eq_false (by omega)
      rw [if_neg h2]
      go_enter Tryz.func68, Tryz.ntmps68
      go_wp2_with (go_at_call 93; (first | (with_reducible refine (C1.out _).mono ?_) | (with_reducible refine (C2.out _).mono ?_)); rintro e w' ⟨rfl, rfl⟩)
      go_ret
      exact ⟨rfl, rfl⟩
set_option maxHeartbeats 1000000 in
theorem byFrom_any (nd : Int) (x y : AO) (W : World) : Calls Tryz.prog 67 #[.agg (oC nd x), .agg (oC nd y)] W fun e w' => e = .returned (.int .i64 (cfO x y)) ∧ ∃ q os', w' = Go.Sort.grow (W.drewN q) os' := by
  have CC := Lib.hid (cmpU_any x y)
  generalize cfO x y = r at *
  go_enter Tryz.func67, Tryz.ntmps67
  go_wp2_with (go_at_call 68; (with_reducible refine (CC.out _).mono ?_); rintro e w' ⟨rfl, rfl⟩)
  go_ret
  exact ⟨rfl, 0, _, by rw [Go.Sort.alloc_eq_grow, Go.Sort.alloc_eq_grow, Go.Sort.grow_grow]; rfl⟩
theorem flat_row (nd : Int) (d : Array AO) : (Go.Sort.flatK (eK nd) 4 d).toList = rowC (oC nd) d.toList := by
  have hlen : (Go.Sort.flatK (eK nd) 4 d).toList.length = (rowC (oC nd) d.toList).length := by rw [rowC_length (oC_size nd), Array.length_toList, Go.Sort.size_flatK, Array.length_toList]
  refine List.ext_getElem hlen fun j h1 h2 => ?_
  have hj : j < d.size * 4 := by simpa using h1
  have hq : j / 4 < d.size := by omega
  have hx : d.toList[j / 4]? = some d[j / 4]! := by rw [Array.getElem?_toList, Array.getElem?_eq_getElem hq, getElem!_pos d _ hq]
  have hr := rowC_get (oC_size nd) d.toList (j / 4) (j % 4) _ hx (Nat.mod_lt _ (by omega))
  rw [show j / 4 * 4 + j % 4 = j by omega, List.getElem?_eq_getElem h2] at hr
  have hf := Go.Sort.get_flatK (eK nd) 4 d j hj
  rw [getElem!_pos _ j (by simpa using hj)] at hf
  have h4 : j % 4 < (oC nd d[j / 4]!).size := by rw [oC_size]; exact Nat.mod_lt _ (by omega)
  rw [Array.getElem_toList, hf]
  rw [Array.getElem?_eq_getElem h4] at hr
  rw [Option.some.inj hr, getElem!_pos _ _ (by simpa using h4), Array.getElem_toList]
theorem holds_row {W : World} {g o n c : Nat} {nd : Int} {l : List AO} (h : OwRow W (.slice (some ⟨g, o, none⟩) n c) n nd l) : Go.Sort.HoldsK (eK nd) 4 W g o l.toArray := by
  intro j hj
  have hf := flat_row nd l.toArray
  have hj' : j < l.length * 4 := by simpa using hj
  have hl := rowC_length (oC_size nd) l
  have h1 := h.cellAt j (by rw [hl]; omega)
  refine ⟨?_, ow_free h _⟩
  rw [h1, ← hf, Array.getElem?_toList, getElem!_pos _ j hj]
  exact Array.getElem?_eq_getElem hj
theorem heap_sorted {w : World} {g o m : Nat} {os : Array Obj} {cur : Array Value} {e : TypeId} {fr : Nat × Nat} (F : Array Value) (hb : w.heap[g]? = some (.cells cur e fr)) :
    (Go.Sort.grow (Go.Sort.putRow id (Go.Sort.ahead w m) g o F) os).heap[g]? = some (.cells (Go.Sort.putCells id o F cur) e fr) := by
  have hg : g < w.heap.size := (Array.getElem?_eq_some_iff.1 hb).1
  rw [Go.Sort.heap_grow_old _ _ (by simpa using hg)]
  simp [Go.Sort.putRow, Go.Sort.mapBlock, Go.Sort.ahead, Array.getElem?_modify, hb, Go.Sort.onCells]
theorem touch_sorted {w : World} {g o m : Nat} {os : Array Obj} (F : Array Value) : Touch [g] w (Go.Sort.grow (Go.Sort.putRow id (Go.Sort.ahead w m) g o F) os) := by
  refine ⟨rfl, rfl, rfl, by simp, fun k hk hne => ?_⟩
  rw [Go.Sort.heap_grow_old _ _ (by simpa using hk)]
  have : g ≠ k := fun e => hne (by simp [e])
  simp [Go.Sort.putRow, Go.Sort.mapBlock, Go.Sort.ahead, Array.getElem?_modify, this]
theorem own_sorted {w : World} {g o n c m : Nat} {os : Array Obj} {nd : Int} {l : List AO} {d : Array AO} (h : OwRow w (.slice (some ⟨g, o, none⟩) n c) n nd l) (hd : d.size = l.length) :
    OwRow (sortWorldK (eK nd) 4 w g o m d os) (.slice (some ⟨g, o, none⟩) n c) n nd d.toList := by
  have hn := ow_len h
  rcases h.2 with ⟨h0, _⟩ | ⟨g', o', c', cur, hv, h1, h2, h3, h4, h5⟩
  · cases h0
  injection hv with e1 _ e3
  injection e1 with e1
  injection e1 with e1 e2 _
  subst e1 e2 e3
  refine ⟨by rw [rowC_length (oC_size nd), Array.length_toList, hd, hn], .inr ⟨g, o, c, _, rfl, heap_sorted _ h1, h2, h3, by simp [Go.Sort.putCells, h4], ?_⟩⟩
  have hs : (Go.Sort.flatK (eK nd) 4 d).size = n * 4 := by rw [Go.Sort.size_flatK, hd, hn]
  rw [← flat_row]
  apply List.ext_getElem?
  intro j
  by_cases hj : j < n * 4
  · have hc : o + j < cur.size := by
      have := Nat.mul_le_mul_right 4 h2
      omega
    rw [List.getElem?_take_of_lt hj, List.getElem?_drop, Array.getElem?_toList, Array.getElem?_toList]
    simp [Go.Sort.putCells, hs, hj, hc]
  · rw [List.getElem?_take_eq_none (by omega), List.getElem?_eq_none (by simp [hs]; omega)]
/-- what is sorted -/
def SortPost (W : World) (A : Option Addr) (n c : Nat) (nd : Int) (l : List AO) (e : Ending) (w' : World) : Prop :=
  e = .returned (.tuple #[]) ∧ ∃ D : List AO, D.Perm l ∧ (D.Pairwise fun p q => p.f ≤ q.f) ∧ OwRow w' (.slice A n c) n nd D ∧ Touch ((Value.slice A n c).ownBlock.toList) W w'
theorem sort_some (l : List AO) (nd : Int) (g o c n : Nat) (W : World) (hr : OwRow W (.slice (some ⟨g, o, none⟩) n c) n nd l) (hl : n ≤ 100000) :
    Calls Tryz.prog 66 #[.slice (some ⟨g, o, none⟩) n c, .func (.func 67) #[] #[]] W (SortPost W (some ⟨g, o, none⟩) n c nd l) := by
  have hn := ow_len hr
  have eg : ∀ args w, (callFunc 67 args).run Tryz.prog w = .ok (.enter 67 args) w := enters_of Tryz.func67 (by kernel_rfl) rfl
  have h1 := hr.lt g rfl
  have hcon := AnyQ.slices_SortFunc sortOw 4 Tryz.isAgg60 Tryz.sizeOf60 (eK nd) (fun _ => rfl) (fun x v hv => by simp [eK] at hv; rcases hv with rfl | rfl | rfl | rfl <;> rfl) cfO swoO 67 #[] g o c l.toArray W eg (fun _ _ _ _ x y => byFrom_any nd x y _) (holds_row hr) h1 (by simp; omega)
  have hs : l.toArray.size = n := by simpa using hn
  rw [hs] at hcon
  refine hcon.mono ?_
  rintro e w' ⟨rfl, d, m, os, ⟨hp1, _, hp⟩, hq, rfl⟩
  have hd : d.size = n := hp1.trans hs
  have e1 : d.extract 0 n = d := by rw [← hd]; simp
  have e2 : l.toArray.extract 0 n = l.toArray := by rw [← hs]; simp
  rw [e1, e2] at hp
  refine ⟨rfl, d.toList, by simpa using hp, ?_, own_sorted hr (by rw [hd, hn]), touch_sorted _⟩
  refine List.pairwise_iff_getElem.2 fun i j hi hj hij => ?_
  have hi' : i < d.size := by simpa using hi
  have hj' : j < d.size := by simpa using hj
  have := hq i j (Nat.zero_le _) hij (by omega)
  rw [ltO, getElem!_pos d i hi', getElem!_pos d j hj'] at this
  simpa using this
/-! of nothing nothing is sorted -/
theorem ins_nil (c : Nat) (fv : Value) (W : World) : Calls Tryz.prog 105 #[.slice none 0 c, .int .i64 0, .int .i64 0, fv] W fun e w' => e = .returned (.tuple #[]) ∧ w' = W := by
  go_enter Tryz.func105, Tryz.ntmps105
  go_wp2
  refine wp_loop_rounds 1 ?_
  rw [rounds_succ]
  go_wp2
  go_end0
  exact ⟨rfl, rfl⟩
theorem pdq_nil (c : Nat) (lim : Int) (fv : Value) (W : World) : Calls Tryz.prog 91 #[.slice none 0 c, .int .i64 0, .int .i64 0, .int .i64 lim, fv] W fun e w' => e = .returned (.tuple #[]) ∧ w' = W := by
  have CI := Lib.hid (ins_nil c fv)
  go_enter Tryz.func91, Tryz.ntmps91
  go_wp2
  refine wp_loop_rounds 1 ?_
  rw [rounds_succ]
  go_wp2_with (go_at_call 105; (with_reducible refine (CI.out _).mono ?_); rintro e w' ⟨rfl, rfl⟩)
  (try simp only [Exit.inBlock, Exit.then]); refine bodyPost_ret (results_none rfl _ _ _) rfl ?_
  exact ⟨rfl, rfl⟩
theorem sort_nil (c : Nat) (fv : Value) (W : World) : Calls Tryz.prog 66 #[.slice none 0 c, fv] W fun e w' => e = .returned (.tuple #[]) ∧ w' = W := by
  have hl : Calls Tryz.prog 92 #[.int .u64 (0 : Int)] W fun e w' => e = .returned (.int .i64 (Lib.bitLen 0 : Nat)) ∧ w' = W := by
    have h := Any.bits_Len (SlLaysF0.n15.bits (P := Tryz.prog) (ρ := sortOw_ren) { sortOw with }) (0 : Int) W (by omega) (by omega)
    exact h
  have CL := Lib.hid hl
  have CP := Lib.hid fun lim => pdq_nil c lim fv W
  clear hl
  generalize ((Lib.bitLen 0 : Nat) : Int) = lim at *
  go_enter Tryz.func66, Tryz.ntmps66
  go_wp2_with (first
    | (go_at_call 92; (with_reducible refine (CL.out).mono ?_); rintro e w' ⟨rfl, rfl⟩)
    | (go_at_call 91; (with_reducible refine (CP.out _).mono ?_); rintro e w' ⟨rfl, rfl⟩))
  go_end0
  exact ⟨rfl, rfl⟩
/-- a row of arcs is sorted by where they begin -/
theorem sort_any (l : List AO) (nd : Int) (A : Option Addr) (c n : Nat) (W : World) (hr : OwRow W (.slice A n c) n nd l) (hl : n ≤ 100000) :
    Calls Tryz.prog 66 #[.slice A n c, .func (.func 67) #[] #[]] W (SortPost W A n c nd l) := by
  rcases hr.2 with ⟨h0, h1⟩ | ⟨g, o, cap, cur, h0, _⟩
  · injection h0 with e1 e2 e3
    subst e1 e2
    refine (sort_nil c _ W).mono ?_
    rintro e w' ⟨rfl, rfl⟩
    have : l = [] := List.length_eq_zero_iff.1 (ow_len hr)
    subst this
    exact ⟨rfl, [], List.Perm.refl _, List.Pairwise.nil, hr, Touch.refl _ _⟩
  · injection h0 with e1 e2 e3
    subst e1
    exact sort_some l nd g o c n W hr hl
end Go.Proofs.YthgndgoljchnfaaGreat
namespace Go.Proofs.YthgndgoljchnfaaGreat
open Go.RowKit

set_option maxHeartbeats 1000000 in
theorem sameEpoch_any (nd : Int) (p q : AO) (W : World) : Calls Tryz.prog 36 #[.agg (oC nd p), .agg (oC nd q)] W fun e w' => e = .returned (.bool (mayJ false p q)) ∧ Below W.heap.size W w' := by
  have h : (p.e == q.e) = mayJ false p q := by unfold mayJ; simp
  have HB : Hid (Below W.heap.size W ((W.alloc (.cells (oC nd p) 60)).alloc (.cells (oC nd q) 60))) := ((Below.refl _ _).alloc (Nat.le_refl _) _).alloc (by simp) _
  generalize mayJ false p q = r at *
  go_enter Tryz.func36, Tryz.ntmps36
  go_wp2
  go_ret
  exact ⟨rfl, HB.out⟩
set_option maxHeartbeats 1000000 in
theorem anyEpoch_any (nd : Int) (p q : AO) (W : World) : Calls Tryz.prog 63 #[.agg (oC nd p), .agg (oC nd q)] W fun e w' => e = .returned (.bool (mayJ true p q)) ∧ Below W.heap.size W w' := by
  go_enter Tryz.func63, Tryz.ntmps63
  go_wp2
  go_ret
  refine ⟨rfl, ?_⟩
  first | exact Below.refl _ _ | exact ((Below.refl _ _).alloc (Nat.le_refl _) _).alloc (by simp) _
/-- three boxes of arcs, one behind the other -/
def Bx (w : World) (b : Nat) (cs : Array Value) (T : TypeId) : Prop := w.heap[b]? = some (.cells cs T)
theorem Bx.new (w : World) (cs : Array Value) (T : TypeId) : Bx (w.alloc (.cells cs T)) w.heap.size cs T := heap_alloc_new w _
theorem Bx.below {w w1 : World} {b : Nat} {cs : Array Value} {T : TypeId} (h : Bx w b cs T) (t : Below w.heap.size w w1) : Bx w1 b cs T := (t.block b (bx_lt h)).trans h
theorem Bx.old {w : World} {b : Nat} {cs : Array Value} {T : TypeId} (h : Bx w b cs T) (o : Obj) : Bx (w.alloc o) b cs T := h.below ((Below.refl _ _).alloc (Nat.le_refl _) o)
theorem Bx.four {w : World} {b : Nat} {a c d e : Value} {T : TypeId} (h : Bx w b #[a, c, d, e] T) : w.cell? ⟨b, 0, none⟩ = some a ∧ w.cell? ⟨b, 1, none⟩ = some c ∧ w.cell? ⟨b, 2, none⟩ = some d ∧ w.cell? ⟨b, 3, none⟩ = some e ∧ b < w.heap.size := ⟨bx_cell h rfl, bx_cell h rfl, bx_cell h rfl, bx_cell h rfl, bx_lt h⟩
theorem Bx.two {w : World} {b : Nat} {a c : Value} {T : TypeId} (h : Bx w b #[a, c] T) : w.cell? ⟨b, 0, none⟩ = some a ∧ w.cell? ⟨b, 1, none⟩ = some c ∧ b < w.heap.size := ⟨bx_cell h rfl, bx_cell h rfl, bx_lt h⟩
theorem Bx.free {w : World} {b : Nat} {cs : Array Value} {T : TypeId} (h : Bx w b cs T) (i : Nat) : w.frozen? ⟨b, i, none⟩ = false := by simp [World.frozen?, show w.heap[b]? = _ from h]
theorem bx_set {w : World} {b : Nat} {cs : Array Value} {T : TypeId} (h : Bx w b cs T) (i : Nat) (u : Value) : Bx (w.setCell ⟨b, i, none⟩ u) b (cs.setIfInBounds i u) T := by
  have h' : w.heap[b]? = some (.cells cs T) := h
  show (w.setCell ⟨b, i, none⟩ u).heap[b]? = _
  simp [World.setCell, Array.getElem?_modify, h']
theorem Bx.put4 {w : World} {b : Nat} {x0 x1 x2 x3 : Value} {T : TypeId} (h : Bx w b #[x0, x1, x2, x3] T) (a c d e : Value) : Bx ((((w.setCell ⟨b, 0, none⟩ a).setCell ⟨b, 1, none⟩ c).setCell ⟨b, 2, none⟩ d).setCell ⟨b, 3, none⟩ e) b #[a, c, d, e] T := bx_set (bx_set (bx_set (bx_set h 0 a) 1 c) 2 d) 3 e
theorem Bx.put2 {w : World} {b : Nat} {x0 x1 : Value} {T : TypeId} (h : Bx w b #[x0, x1] T) (a c : Value) : Bx ((w.setCell ⟨b, 0, none⟩ a).setCell ⟨b, 1, none⟩ c) b #[a, c] T := bx_set (bx_set h 0 a) 1 c
theorem Bx.other {w : World} {b k : Nat} {cs : Array Value} {T : TypeId} (h : Bx w b cs T) (i : Nat) (u : Value) (hn : b ≠ k) : Bx (w.setCell ⟨k, i, none⟩ u) b cs T := by
  have h' : w.heap[b]? = some (.cells cs T) := h
  show (w.setCell ⟨k, i, none⟩ u).heap[b]? = _
  simp only [World.setCell]
  rw [Array.getElem?_modify, if_neg (fun e => hn e.symm)]
  exact h'
theorem size_set (w : World) (p : Addr) (u : Value) : (w.setCell p u).heap.size = w.heap.size := by simp [World.setCell]
abbrev o0 : Array Value := #[.int .u64 0, .int .u64 0, .int .i64 0, .int .i64 0]
abbrev z2 : Array Value := #[.int .u64 0, .int .u64 0]
abbrev a2 (f t : Nat) : Array Value := #[.int .u64 (f : Nat), .int .u64 (t : Nat)]
/-- cells of blocks that are newer than a world -/
theorem set_new {W w : World} {b : Nat} (h : Below W.heap.size W w) (hb : W.heap.size ≤ b) (o : Nat) (u : Value) : Below W.heap.size W (w.setCell ⟨b, o, none⟩ u) := by
  refine ⟨h.os, h.tape, h.output, ?_, fun k hk => ?_⟩
  · simpa [World.setCell] using h.size
  · rw [← h.block k hk]
    simp only [World.setCell]
    rw [Array.getElem?_modify]
    split
    · omega
    · rfl
set_option maxHeartbeats 1000000 in
theorem at_any (nd : Int) (p : AO) (f t : Nat) (W : World) : Calls Tryz.prog 95 #[.agg (oC nd p), .agg (a2 f t)] W fun e w' => e = .returned (.agg (oC nd ⟨f, t, p.n, p.e⟩)) ∧ Below W.heap.size W w' := by
  have B0 : Below W.heap.size W (((W.alloc (.cells (oC nd p) 60)).alloc (.cells (a2 f t) 25)).alloc (.cells o0 60)) := (((Below.refl _ _).alloc (Nat.le_refl _) _).alloc (by simp) _).alloc (by simp; omega) _
  have b1 := ((Bx.new W (oC nd p) 60).old (.cells (a2 f t) 25)).old (.cells o0 60)
  have b2 := (Bx.new (W.alloc (.cells (oC nd p) 60)) (a2 f t) 25).old (.cells o0 60)
  have b3 := Bx.new ((W.alloc (.cells (oC nd p) 60)).alloc (.cells (a2 f t) 25)) o0 60
  simp only [World.size_alloc] at b2 b3
  go_enter Tryz.func95, Tryz.ntmps95
  go_upto_region 1 with fail
  obtain ⟨w0, hw0⟩ : ∃ w0, ((W.alloc (.cells (oC nd p) 60)).alloc (.cells (a2 f t) 25)).alloc (.cells o0 60) = w0 := ⟨_, rfl⟩
  rw [hw0] at B0 b1 b2 b3 ⊢
  clear hw0
  have HB := Lib.hid B0
  obtain ⟨c0, c1, c2, c3, l1⟩ := b1.four
  obtain ⟨d0, d1, l2⟩ := b2.two
  obtain ⟨e0, e1, e2, e3, l3⟩ := b3.four
  have f0 := b1.free 0
  have f1 := b1.free 1
  have g0 := b3.free 0
  have g1 := b3.free 1
  have g2 := b3.free 2
  have g3 := b3.free 3
  have HX3 := Lib.hid b3
  clear b1 b2 b3 B0
  go_wp2
  refine bodyPost_ret (v := .agg (oC nd ⟨f, t, p.n, p.e⟩)) ?_ rfl ⟨rfl, ?_⟩
  · obtain ⟨s0, s1, s2, s3, _⟩ := (((HX3.out.other 0 (.int .u64 (f : Nat)) (k := W.heap.size) (by omega)).other 1 (.int .u64 (t : Nat)) (k := W.heap.size) (by omega)).put4 (.int .u64 (f : Nat)) (.int .u64 (t : Nat)) (.int .i64 nd) (.int .i64 p.e)).four
    simp [results, Tryz.results95, go_sem, s0, s1, s2, s3]
  · repeat (first | with_reducible exact HB.out | with_reducible refine set_new ?_ (by omega) _ _)
/-- what is told of two -/
def JoinPost (b : Bool) (nd : Int) (p q : AO) (W : World) (e : Ending) (w' : World) : Prop :=
  e = .returned (.tuple #[if okJ b p q = true then .agg (oC nd (bothJ p q)) else .agg o0, .bool (okJ b p q)]) ∧ Below W.heap.size W w'
set_option maxHeartbeats 4000000 in
theorem joinSame_any (nd : Int) (p q : AO) (W : World) (hp : p.lt) (hq : q.lt) : Calls Tryz.prog 69 #[.agg (oC nd p), .agg (oC nd q), .func (.func 36) #[] #[]] W (JoinPost false nd p q W) := by
  have CJ := Lib.hid fun W => join_any p.f p.t q.f q.t W hp.1 hp.2 hq.1 hq.2
  have CM := Lib.hid fun W => sameEpoch_any nd p q W
  have CA := Lib.hid fun W => at_any nd ⟨p.f, p.t, p.n, max p.e q.e⟩ p.f q.t W
  have hi : ∀ a w, (callFunc 36 a).run Tryz.prog w = .ok (.enter 36 a) w := fun _ _ => by kernel_rfl
  have hok : okJ false p q = (joinB p.f p.t q.f q.t && mayJ false p q) := rfl
  unfold JoinPost
  rw [hok]
  obtain ⟨m, hm⟩ : ∃ m, max p.e q.e = m := ⟨_, rfl⟩
  have hb : bothJ p q = ⟨p.f, q.t, p.n, m⟩ := by unfold bothJ; rw [hm]
  rw [hb]
  rw [hm] at CA
  have hmx := hm
  obtain ⟨j, hj⟩ : ∃ j, joinB p.f p.t q.f q.t = j := ⟨_, rfl⟩
  obtain ⟨k, hk⟩ : ∃ k, mayJ false p q = k := ⟨_, rfl⟩
  rw [hj] at CJ ⊢
  rw [hk] at CM ⊢
  clear hj hk hok hm hb hp hq
  have HMX := Lib.hid hmx
  have B0 : Below W.heap.size W (((W.alloc (.cells (oC nd p) 60)).alloc (.cells (oC nd q) 60)).alloc (.cells o0 60)) := (((Below.refl _ _).alloc (Nat.le_refl _) _).alloc (by simp) _).alloc (by simp; omega) _
  have b1 := ((Bx.new W (oC nd p) 60).old (.cells (oC nd q) 60)).old (.cells o0 60)
  have b2 := (Bx.new (W.alloc (.cells (oC nd p) 60)) (oC nd q) 60).old (.cells o0 60)
  have b3 := Bx.new ((W.alloc (.cells (oC nd p) 60)).alloc (.cells (oC nd q) 60)) o0 60
  simp only [World.size_alloc] at b2 b3
  clear hmx
  cases j
  · simp only [arcOf_no] at CJ
    simp only [Bool.false_and, Bool.false_eq_true, if_false]
    go_enter Tryz.func69, Tryz.ntmps69
    go_upto_region 1 with fail
    obtain ⟨w0, hw0⟩ : ∃ w0, ((W.alloc (.cells (oC nd p) 60)).alloc (.cells (oC nd q) 60)).alloc (.cells o0 60) = w0 := ⟨_, rfl⟩
    rw [hw0] at B0 b1 b2 b3 ⊢
    clear hw0
    have HB0 := Lib.hid B0
    have HX1 := Lib.hid b1
    have HX2 := Lib.hid b2
    have HX3 := Lib.hid b3
    obtain ⟨c0, c1, c2, c3, l1⟩ := b1.four
    obtain ⟨d0, d1, d2, d3, l2⟩ := b2.four
    have l3 := b3.four.2.2.2.2
    clear b1 b2 b3 B0
    go_upto_region 2 with (go_at_call 94; (with_reducible refine (CJ.out _).mono ?_); rintro e w1 ⟨rfl, hb1⟩; have HB1 := Lib.hid hb1; have hs1 := hb1.size; clear hb1)
    clear c0 c1 c2 c3 d0 d1 d2 d3
    have HC1 : Hid (Below W.heap.size W w1) := acc HB0.out HB1.out
    have b1 := HX1.out.below HB1.out
    have b2 := HX2.out.below HB1.out
    have b3 := HX3.out.below HB1.out
    obtain ⟨e0, e1, e2, e3, _⟩ := b3.four
    have g0 := b3.free 0
    have g1 := b3.free 1
    have g2 := b3.free 2
    have g3 := b3.free 3
    have hl := HC1.out.size
    clear b1 b2 b3
    have HX3b := Lib.hid (HX3.out.below HB1.out)
    go_wp2
    refine bodyPost_ret (v := .tuple #[.agg o0, .bool false]) ?_ rfl ⟨rfl, ?_⟩
    · obtain ⟨s0, s1, s2, s3, _⟩ := ((HX3b.out.put4 (.int .u64 0) (.int .u64 0) (.int .i64 0) (.int .i64 0)).old (.cells z2 25)).four
      simp [results, Tryz.results69, go_sem, s0, s1, s2, s3]
    · repeat (first | with_reducible exact HC1.out | with_reducible refine set_new ?_ (by omega) _ _ | with_reducible refine Below.alloc ?_ (by first | omega | (simp only [size_set]; omega)) _)
  · simp only [arcOf_yes] at CJ
    simp only [Bool.true_and]
    cases k
    · simp only [Bool.false_eq_true, if_false]
      go_enter Tryz.func69, Tryz.ntmps69
      go_upto_region 1 with fail
      obtain ⟨w0, hw0⟩ : ∃ w0, ((W.alloc (.cells (oC nd p) 60)).alloc (.cells (oC nd q) 60)).alloc (.cells o0 60) = w0 := ⟨_, rfl⟩
      rw [hw0] at B0 b1 b2 b3 ⊢
      clear hw0
      have HB0 := Lib.hid B0
      have HX1 := Lib.hid b1
      have HX2 := Lib.hid b2
      have HX3 := Lib.hid b3
      obtain ⟨c0, c1, c2, c3, l1⟩ := b1.four
      obtain ⟨d0, d1, d2, d3, l2⟩ := b2.four
      have l3 := b3.four.2.2.2.2
      clear b1 b2 b3 B0
      go_upto_region 2 with (go_at_call 94; (with_reducible refine (CJ.out _).mono ?_); rintro e w1 ⟨rfl, hb1⟩; have HB1 := Lib.hid hb1; have hs1 := hb1.size; clear hb1)
      clear c0 c1 c2 c3 d0 d1 d2 d3
      have HC1 : Hid (Below W.heap.size W w1) := acc HB0.out HB1.out
      have b1 := HX1.out.below HB1.out
      have b2 := HX2.out.below HB1.out
      have b3 := HX3.out.below HB1.out
      have hl := HC1.out.size
      have HY1 := Lib.hid (b1.old (.cells (a2 p.f q.t) 25))
      have HY2 := Lib.hid (b2.old (.cells (a2 p.f q.t) 25))
      have HY3 := Lib.hid (b3.old (.cells (a2 p.f q.t) 25))
      have HY4 := Lib.hid (Bx.new w1 (a2 p.f q.t) 25)
      have HC2 : Hid (Below W.heap.size W (w1.alloc (.cells (a2 p.f q.t) 25))) := HC1.out.alloc (by omega) _
      clear b1 b2 b3
      obtain ⟨w2, hw2⟩ : ∃ w2, (w1.alloc (.cells (a2 p.f q.t) 25)) = w2 := ⟨_, rfl⟩
      rw [hw2] at HY1 HY2 HY3 HY4 HC2
      rw [hw2]
      clear hw2
      obtain ⟨z, hz⟩ : ∃ z, w1.heap.size = z := ⟨_, rfl⟩
      rw [hz] at HY4 ⊢
      have hz2 : W.heap.size + 3 ≤ z := by omega
      obtain ⟨c0, c1, c2, c3, l1⟩ := HY1.out.four
      obtain ⟨d0, d1, d2, d3, l2⟩ := HY2.out.four
      go_upto_region 3 with (go_at_call 36; (with_reducible refine (CM.out _).mono ?_); rintro e w3 ⟨rfl, hb3⟩; have HB3 := Lib.hid hb3; have hs3 := hb3.size; clear hb3)
      have HC3 : Hid (Below W.heap.size W w3) := acc HC2.out HB3.out
      have HY5 := Lib.hid (HY3.out.below HB3.out)
      obtain ⟨e0, e1, e2, e3, _⟩ := HY5.out.four
      have g0 := HY5.out.free 0
      have g1 := HY5.out.free 1
      have g2 := HY5.out.free 2
      have g3 := HY5.out.free 3
      go_wp2
      refine bodyPost_ret (v := .tuple #[.agg o0, .bool false]) ?_ rfl ⟨rfl, ?_⟩
      · obtain ⟨s0, s1, s2, s3, _⟩ := (HY5.out.put4 (.int .u64 0) (.int .u64 0) (.int .i64 0) (.int .i64 0)).four
        simp [results, Tryz.results69, go_sem, s0, s1, s2, s3]
      · repeat (first | with_reducible exact HC3.out | with_reducible refine set_new ?_ (by omega) _ _ | with_reducible refine Below.alloc ?_ (by first | omega | (simp only [size_set]; omega)) _)
    · simp only [if_true]
      go_enter Tryz.func69, Tryz.ntmps69
      go_upto_region 1 with fail
      obtain ⟨w0, hw0⟩ : ∃ w0, ((W.alloc (.cells (oC nd p) 60)).alloc (.cells (oC nd q) 60)).alloc (.cells o0 60) = w0 := ⟨_, rfl⟩
      rw [hw0] at B0 b1 b2 b3 ⊢
      clear hw0
      have HB0 := Lib.hid B0
      have HX1 := Lib.hid b1
      have HX2 := Lib.hid b2
      have HX3 := Lib.hid b3
      obtain ⟨c0, c1, c2, c3, l1⟩ := b1.four
      obtain ⟨d0, d1, d2, d3, l2⟩ := b2.four
      have l3 := b3.four.2.2.2.2
      clear b1 b2 b3 B0
      go_upto_region 2 with (go_at_call 94; (with_reducible refine (CJ.out _).mono ?_); rintro e w1 ⟨rfl, hb1⟩; have HB1 := Lib.hid hb1; have hs1 := hb1.size; clear hb1)
      clear c0 c1 c2 c3 d0 d1 d2 d3
      have HC1 : Hid (Below W.heap.size W w1) := acc HB0.out HB1.out
      have b1 := HX1.out.below HB1.out
      have b2 := HX2.out.below HB1.out
      have b3 := HX3.out.below HB1.out
      have hl := HC1.out.size
      have HY1 := Lib.hid (b1.old (.cells (a2 p.f q.t) 25))
      have HY2 := Lib.hid (b2.old (.cells (a2 p.f q.t) 25))
      have HY3 := Lib.hid (b3.old (.cells (a2 p.f q.t) 25))
      have HY4 := Lib.hid (Bx.new w1 (a2 p.f q.t) 25)
      have HC2 : Hid (Below W.heap.size W (w1.alloc (.cells (a2 p.f q.t) 25))) := HC1.out.alloc (by omega) _
      clear b1 b2 b3
      obtain ⟨w2, hw2⟩ : ∃ w2, (w1.alloc (.cells (a2 p.f q.t) 25)) = w2 := ⟨_, rfl⟩
      rw [hw2] at HY1 HY2 HY3 HY4 HC2
      rw [hw2]
      clear hw2
      obtain ⟨z, hz⟩ : ∃ z, w1.heap.size = z := ⟨_, rfl⟩
      rw [hz] at HY4 ⊢
      have hz2 : W.heap.size + 3 ≤ z := by omega
      obtain ⟨c0, c1, c2, c3, l1⟩ := HY1.out.four
      obtain ⟨d0, d1, d2, d3, l2⟩ := HY2.out.four
      go_upto_region 4 with (go_at_call 36; (with_reducible refine (CM.out _).mono ?_); rintro e w3 ⟨rfl, hb3⟩; have HB3 := Lib.hid hb3; have hs3 := hb3.size; clear hb3)
      clear c0 c1 c2 c3 d0 d1 d2 d3
      have HC3 : Hid (Below W.heap.size W w3) := acc HC2.out HB3.out
      have HV1 := Lib.hid (HY1.out.below HB3.out)
      have HV3 := Lib.hid (HY3.out.below HB3.out)
      have HV4 := Lib.hid (HY4.out.below HB3.out)
      obtain ⟨c0, c1, c2, c3, _⟩ := HV1.out.four
      obtain ⟨d0, d1, d2, d3, _⟩ := (HY2.out.below HB3.out).four
      have f3 := HV1.out.free 3
      have hmx := HMX.out
      have l4 := HY4.out.two.2.2
      go_upto_region 5 with fail
      clear c0 c1 c2 c3 d0 d1 d2 d3 f3 hmx
      have HU1 := Lib.hid (bx_set HV1.out 3 (.int .i64 m))
      have HU3 := Lib.hid (HV3.out.other 3 (.int .i64 m) (k := W.heap.size) (by omega))
      have HU4 := Lib.hid (HV4.out.other 3 (.int .i64 m) (k := W.heap.size) (by omega))
      have HC4 : Hid (Below W.heap.size W (w3.setCell ⟨W.heap.size, 3, none⟩ (.int .i64 m))) := set_new HC3.out (Nat.le_refl _) _ _
      obtain ⟨w4, hw4⟩ : ∃ w4, w3.setCell ⟨W.heap.size, 3, none⟩ (.int .i64 m) = w4 := ⟨_, rfl⟩
      rw [hw4] at HU1 HU3 HU4 HC4 ⊢
      clear hw4
      obtain ⟨c0, c1, c2, c3, _⟩ := Bx.four (a := .int .u64 (p.f : Nat)) (c := .int .u64 (p.t : Nat)) (d := .int .i64 nd) (e := .int .i64 m) HU1.out
      obtain ⟨d0, d1, _⟩ := HU4.out.two
      go_wp2_with (go_at_call 95; (with_reducible refine (CA.out _).mono ?_); rintro e w5 ⟨rfl, hb5⟩; have HB5 := Lib.hid hb5; have HU5 := Lib.hid (HU3.out.below hb5); have HC5 : Hid (Below W.heap.size W w5) := (acc HC4.out hb5); obtain ⟨e0, e1, e2, e3, _⟩ := HU5.out.four; have g0 := HU5.out.free 0; have g1 := HU5.out.free 1; have g2 := HU5.out.free 2; have g3 := HU5.out.free 3; clear hb5)
      refine bodyPost_ret (v := .tuple #[.agg (oC nd ⟨p.f, q.t, p.n, m⟩), .bool true]) ?_ rfl ⟨rfl, ?_⟩
      · obtain ⟨s0, s1, s2, s3, _⟩ := (HU5.out.put4 (.int .u64 (p.f : Nat)) (.int .u64 (q.t : Nat)) (.int .i64 nd) (.int .i64 m)).four
        simp [results, Tryz.results69, go_sem, s0, s1, s2, s3]
      · repeat (first | with_reducible exact HC5.out | with_reducible refine set_new ?_ (by omega) _ _ | with_reducible refine Below.alloc ?_ (by first | omega | (simp only [size_set]; omega)) _)
set_option maxHeartbeats 4000000 in
theorem joinWide_any (nd : Int) (p q : AO) (W : World) (hp : p.lt) (hq : q.lt) : Calls Tryz.prog 69 #[.agg (oC nd p), .agg (oC nd q), .func (.func 63) #[] #[]] W (JoinPost true nd p q W) := by
  have CJ := Lib.hid fun W => join_any p.f p.t q.f q.t W hp.1 hp.2 hq.1 hq.2
  have CM := Lib.hid fun W => anyEpoch_any nd p q W
  have CA := Lib.hid fun W => at_any nd ⟨p.f, p.t, p.n, max p.e q.e⟩ p.f q.t W
  have hi : ∀ a w, (callFunc 63 a).run Tryz.prog w = .ok (.enter 63 a) w := fun _ _ => by kernel_rfl
  have hok : okJ true p q = (joinB p.f p.t q.f q.t && mayJ true p q) := rfl
  unfold JoinPost
  rw [hok]
  obtain ⟨m, hm⟩ : ∃ m, max p.e q.e = m := ⟨_, rfl⟩
  have hb : bothJ p q = ⟨p.f, q.t, p.n, m⟩ := by unfold bothJ; rw [hm]
  rw [hb]
  rw [hm] at CA
  have hmx := hm
  obtain ⟨j, hj⟩ : ∃ j, joinB p.f p.t q.f q.t = j := ⟨_, rfl⟩
  obtain ⟨k, hk⟩ : ∃ k, mayJ true p q = k := ⟨_, rfl⟩
  rw [hj] at CJ ⊢
  rw [hk] at CM ⊢
  clear hj hk hok hm hb hp hq
  have HMX := Lib.hid hmx
  have B0 : Below W.heap.size W (((W.alloc (.cells (oC nd p) 60)).alloc (.cells (oC nd q) 60)).alloc (.cells o0 60)) := (((Below.refl _ _).alloc (Nat.le_refl _) _).alloc (by simp) _).alloc (by simp; omega) _
  have b1 := ((Bx.new W (oC nd p) 60).old (.cells (oC nd q) 60)).old (.cells o0 60)
  have b2 := (Bx.new (W.alloc (.cells (oC nd p) 60)) (oC nd q) 60).old (.cells o0 60)
  have b3 := Bx.new ((W.alloc (.cells (oC nd p) 60)).alloc (.cells (oC nd q) 60)) o0 60
  simp only [World.size_alloc] at b2 b3
  clear hmx
  cases j
  · simp only [arcOf_no] at CJ
    simp only [Bool.false_and, Bool.false_eq_true, if_false]
    go_enter Tryz.func69, Tryz.ntmps69
    go_upto_region 1 with fail
    obtain ⟨w0, hw0⟩ : ∃ w0, ((W.alloc (.cells (oC nd p) 60)).alloc (.cells (oC nd q) 60)).alloc (.cells o0 60) = w0 := ⟨_, rfl⟩
    rw [hw0] at B0 b1 b2 b3 ⊢
    clear hw0
    have HB0 := Lib.hid B0
    have HX1 := Lib.hid b1
    have HX2 := Lib.hid b2
    have HX3 := Lib.hid b3
    obtain ⟨c0, c1, c2, c3, l1⟩ := b1.four
    obtain ⟨d0, d1, d2, d3, l2⟩ := b2.four
    have l3 := b3.four.2.2.2.2
    clear b1 b2 b3 B0
    go_upto_region 2 with (go_at_call 94; (with_reducible refine (CJ.out _).mono ?_); rintro e w1 ⟨rfl, hb1⟩; have HB1 := Lib.hid hb1; have hs1 := hb1.size; clear hb1)
    clear c0 c1 c2 c3 d0 d1 d2 d3
    have HC1 : Hid (Below W.heap.size W w1) := acc HB0.out HB1.out
    have b1 := HX1.out.below HB1.out
    have b2 := HX2.out.below HB1.out
    have b3 := HX3.out.below HB1.out
    obtain ⟨e0, e1, e2, e3, _⟩ := b3.four
    have g0 := b3.free 0
    have g1 := b3.free 1
    have g2 := b3.free 2
    have g3 := b3.free 3
    have hl := HC1.out.size
    clear b1 b2 b3
    have HX3b := Lib.hid (HX3.out.below HB1.out)
    go_wp2
    refine bodyPost_ret (v := .tuple #[.agg o0, .bool false]) ?_ rfl ⟨rfl, ?_⟩
    · obtain ⟨s0, s1, s2, s3, _⟩ := ((HX3b.out.put4 (.int .u64 0) (.int .u64 0) (.int .i64 0) (.int .i64 0)).old (.cells z2 25)).four
      simp [results, Tryz.results69, go_sem, s0, s1, s2, s3]
    · repeat (first | with_reducible exact HC1.out | with_reducible refine set_new ?_ (by omega) _ _ | with_reducible refine Below.alloc ?_ (by first | omega | (simp only [size_set]; omega)) _)
  · simp only [arcOf_yes] at CJ
    simp only [Bool.true_and]
    cases k
    · simp only [Bool.false_eq_true, if_false]
      go_enter Tryz.func69, Tryz.ntmps69
      go_upto_region 1 with fail
      obtain ⟨w0, hw0⟩ : ∃ w0, ((W.alloc (.cells (oC nd p) 60)).alloc (.cells (oC nd q) 60)).alloc (.cells o0 60) = w0 := ⟨_, rfl⟩
      rw [hw0] at B0 b1 b2 b3 ⊢
      clear hw0
      have HB0 := Lib.hid B0
      have HX1 := Lib.hid b1
      have HX2 := Lib.hid b2
      have HX3 := Lib.hid b3
      obtain ⟨c0, c1, c2, c3, l1⟩ := b1.four
      obtain ⟨d0, d1, d2, d3, l2⟩ := b2.four
      have l3 := b3.four.2.2.2.2
      clear b1 b2 b3 B0
      go_upto_region 2 with (go_at_call 94; (with_reducible refine (CJ.out _).mono ?_); rintro e w1 ⟨rfl, hb1⟩; have HB1 := Lib.hid hb1; have hs1 := hb1.size; clear hb1)
      clear c0 c1 c2 c3 d0 d1 d2 d3
      have HC1 : Hid (Below W.heap.size W w1) := acc HB0.out HB1.out
      have b1 := HX1.out.below HB1.out
      have b2 := HX2.out.below HB1.out
      have b3 := HX3.out.below HB1.out
      have hl := HC1.out.size
      have HY1 := Lib.hid (b1.old (.cells (a2 p.f q.t) 25))
      have HY2 := Lib.hid (b2.old (.cells (a2 p.f q.t) 25))
      have HY3 := Lib.hid (b3.old (.cells (a2 p.f q.t) 25))
      have HY4 := Lib.hid (Bx.new w1 (a2 p.f q.t) 25)
      have HC2 : Hid (Below W.heap.size W (w1.alloc (.cells (a2 p.f q.t) 25))) := HC1.out.alloc (by omega) _
      clear b1 b2 b3
      obtain ⟨w2, hw2⟩ : ∃ w2, (w1.alloc (.cells (a2 p.f q.t) 25)) = w2 := ⟨_, rfl⟩
      rw [hw2] at HY1 HY2 HY3 HY4 HC2
      rw [hw2]
      clear hw2
      obtain ⟨z, hz⟩ : ∃ z, w1.heap.size = z := ⟨_, rfl⟩
      rw [hz] at HY4 ⊢
      have hz2 : W.heap.size + 3 ≤ z := by omega
      obtain ⟨c0, c1, c2, c3, l1⟩ := HY1.out.four
      obtain ⟨d0, d1, d2, d3, l2⟩ := HY2.out.four
      go_upto_region 3 with (go_at_call 63; (with_reducible refine (CM.out _).mono ?_); rintro e w3 ⟨rfl, hb3⟩; have HB3 := Lib.hid hb3; have hs3 := hb3.size; clear hb3)
      have HC3 : Hid (Below W.heap.size W w3) := acc HC2.out HB3.out
      have HY5 := Lib.hid (HY3.out.below HB3.out)
      obtain ⟨e0, e1, e2, e3, _⟩ := HY5.out.four
      have g0 := HY5.out.free 0
      have g1 := HY5.out.free 1
      have g2 := HY5.out.free 2
      have g3 := HY5.out.free 3
      go_wp2
      refine bodyPost_ret (v := .tuple #[.agg o0, .bool false]) ?_ rfl ⟨rfl, ?_⟩
      · obtain ⟨s0, s1, s2, s3, _⟩ := (HY5.out.put4 (.int .u64 0) (.int .u64 0) (.int .i64 0) (.int .i64 0)).four
        simp [results, Tryz.results69, go_sem, s0, s1, s2, s3]
      · repeat (first | with_reducible exact HC3.out | with_reducible refine set_new ?_ (by omega) _ _ | with_reducible refine Below.alloc ?_ (by first | omega | (simp only [size_set]; omega)) _)
    · simp only [if_true]
      go_enter Tryz.func69, Tryz.ntmps69
      go_upto_region 1 with fail
      obtain ⟨w0, hw0⟩ : ∃ w0, ((W.alloc (.cells (oC nd p) 60)).alloc (.cells (oC nd q) 60)).alloc (.cells o0 60) = w0 := ⟨_, rfl⟩
      rw [hw0] at B0 b1 b2 b3 ⊢
      clear hw0
      have HB0 := Lib.hid B0
      have HX1 := Lib.hid b1
      have HX2 := Lib.hid b2
      have HX3 := Lib.hid b3
      obtain ⟨c0, c1, c2, c3, l1⟩ := b1.four
      obtain ⟨d0, d1, d2, d3, l2⟩ := b2.four
      have l3 := b3.four.2.2.2.2
      clear b1 b2 b3 B0
      go_upto_region 2 with (go_at_call 94; (with_reducible refine (CJ.out _).mono ?_); rintro e w1 ⟨rfl, hb1⟩; have HB1 := Lib.hid hb1; have hs1 := hb1.size; clear hb1)
      clear c0 c1 c2 c3 d0 d1 d2 d3
      have HC1 : Hid (Below W.heap.size W w1) := acc HB0.out HB1.out
      have b1 := HX1.out.below HB1.out
      have b2 := HX2.out.below HB1.out
      have b3 := HX3.out.below HB1.out
      have hl := HC1.out.size
      have HY1 := Lib.hid (b1.old (.cells (a2 p.f q.t) 25))
      have HY2 := Lib.hid (b2.old (.cells (a2 p.f q.t) 25))
      have HY3 := Lib.hid (b3.old (.cells (a2 p.f q.t) 25))
      have HY4 := Lib.hid (Bx.new w1 (a2 p.f q.t) 25)
      have HC2 : Hid (Below W.heap.size W (w1.alloc (.cells (a2 p.f q.t) 25))) := HC1.out.alloc (by omega) _
      clear b1 b2 b3
      obtain ⟨w2, hw2⟩ : ∃ w2, (w1.alloc (.cells (a2 p.f q.t) 25)) = w2 := ⟨_, rfl⟩
      rw [hw2] at HY1 HY2 HY3 HY4 HC2
      rw [hw2]
      clear hw2
      obtain ⟨z, hz⟩ : ∃ z, w1.heap.size = z := ⟨_, rfl⟩
      rw [hz] at HY4 ⊢
      have hz2 : W.heap.size + 3 ≤ z := by omega
      obtain ⟨c0, c1, c2, c3, l1⟩ := HY1.out.four
      obtain ⟨d0, d1, d2, d3, l2⟩ := HY2.out.four
      go_upto_region 4 with (go_at_call 63; (with_reducible refine (CM.out _).mono ?_); rintro e w3 ⟨rfl, hb3⟩; have HB3 := Lib.hid hb3; have hs3 := hb3.size; clear hb3)
      clear c0 c1 c2 c3 d0 d1 d2 d3
      have HC3 : Hid (Below W.heap.size W w3) := acc HC2.out HB3.out
      have HV1 := Lib.hid (HY1.out.below HB3.out)
      have HV3 := Lib.hid (HY3.out.below HB3.out)
      have HV4 := Lib.hid (HY4.out.below HB3.out)
      obtain ⟨c0, c1, c2, c3, _⟩ := HV1.out.four
      obtain ⟨d0, d1, d2, d3, _⟩ := (HY2.out.below HB3.out).four
      have f3 := HV1.out.free 3
      have hmx := HMX.out
      have l4 := HY4.out.two.2.2
      go_upto_region 5 with fail
      clear c0 c1 c2 c3 d0 d1 d2 d3 f3 hmx
      have HU1 := Lib.hid (bx_set HV1.out 3 (.int .i64 m))
      have HU3 := Lib.hid (HV3.out.other 3 (.int .i64 m) (k := W.heap.size) (by omega))
      have HU4 := Lib.hid (HV4.out.other 3 (.int .i64 m) (k := W.heap.size) (by omega))
      have HC4 : Hid (Below W.heap.size W (w3.setCell ⟨W.heap.size, 3, none⟩ (.int .i64 m))) := set_new HC3.out (Nat.le_refl _) _ _
      obtain ⟨w4, hw4⟩ : ∃ w4, w3.setCell ⟨W.heap.size, 3, none⟩ (.int .i64 m) = w4 := ⟨_, rfl⟩
      rw [hw4] at HU1 HU3 HU4 HC4 ⊢
      clear hw4
      obtain ⟨c0, c1, c2, c3, _⟩ := Bx.four (a := .int .u64 (p.f : Nat)) (c := .int .u64 (p.t : Nat)) (d := .int .i64 nd) (e := .int .i64 m) HU1.out
      obtain ⟨d0, d1, _⟩ := HU4.out.two
      go_wp2_with (go_at_call 95; (with_reducible refine (CA.out _).mono ?_); rintro e w5 ⟨rfl, hb5⟩; have HB5 := Lib.hid hb5; have HU5 := Lib.hid (HU3.out.below hb5); have HC5 : Hid (Below W.heap.size W w5) := (acc HC4.out hb5); obtain ⟨e0, e1, e2, e3, _⟩ := HU5.out.four; have g0 := HU5.out.free 0; have g1 := HU5.out.free 1; have g2 := HU5.out.free 2; have g3 := HU5.out.free 3; clear hb5)
      refine bodyPost_ret (v := .tuple #[.agg (oC nd ⟨p.f, q.t, p.n, m⟩), .bool true]) ?_ rfl ⟨rfl, ?_⟩
      · obtain ⟨s0, s1, s2, s3, _⟩ := (HU5.out.put4 (.int .u64 (p.f : Nat)) (.int .u64 (q.t : Nat)) (.int .i64 nd) (.int .i64 m)).four
        simp [results, Tryz.results69, go_sem, s0, s1, s2, s3]
      · repeat (first | with_reducible exact HC5.out | with_reducible refine set_new ?_ (by omega) _ _ | with_reducible refine Below.alloc ?_ (by first | omega | (simp only [size_set]; omega)) _)
end Go.Proofs.YthgndgoljchnfaaGreat
