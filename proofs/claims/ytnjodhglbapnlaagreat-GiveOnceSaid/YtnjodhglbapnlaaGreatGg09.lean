import Derived.Test.YtnjodhglbapnlaaGreatGg08
import Derived.Shelf.SlSortCmp.WholeK
set_option maxRecDepth 100000
set_option maxHeartbeats 16000000
namespace Go.Proofs.YtnjodhglbapnlaaGreat
open Go.RowKit
def ymz : Go.Shelf.Ren := ⟨fun | 6 => 172 | 15 => 194 | 14 => 193 | 28 => 216 | 29 => 217 | 20 => 208 | 21 => 209 | 22 => 210 | 23 => 211 | 24 => 212 | 25 => 213 | 26 => 214 | 27 => 215 | 46 => 225 | 47 => 226 | 48 => 227 | 49 => 228 | 50 => 229 | 57 => 234 | n => n, fun | 22 => 72 | 24 => 152 | 25 => 215 | 3 => 3 | 39 => 237 | 0 => 0 | 53 => 268 | 55 => 23 | 4 => 4 | 46 => 262 | 45 => 261 | 50 => 119 | 5 => 5 | 9 => 9 | 66 => 276 | 70 => 280 | 76 => 285 | 77 => 286 | n => n, fun | n => n⟩
theorem ym0 : Go.Proofs.SlLaysF0.n6 Tryz.prog ymz :=
 {mixed := by kernel_rfl
  f6 := ⟨"slices.SortFunc[[]rosary/api.Owned,rosary/api.Owned]", by decide, Tryz.func172.trans (congrArg some (by kernel_rfl))⟩
  f14 := ⟨"slices.pdqsortCmpFunc[rosary/api.Owned]", by decide, Tryz.func193.trans (congrArg some (by kernel_rfl))⟩
  f15 := Tryz.func194.trans (congrArg some (by kernel_rfl))
  f20 := ⟨"slices.insertionSortCmpFunc[rosary/api.Owned]", by decide, Tryz.func208.trans (congrArg some (by kernel_rfl))⟩
  f21 := ⟨"slices.heapSortCmpFunc[rosary/api.Owned]", by decide, Tryz.func209.trans (congrArg some (by kernel_rfl))⟩
  f22 := ⟨"slices.breakPatternsCmpFunc[rosary/api.Owned]", by decide, Tryz.func210.trans (congrArg some (by kernel_rfl))⟩
  f23 := ⟨"slices.choosePivotCmpFunc[rosary/api.Owned]", by decide, Tryz.func211.trans (congrArg some (by kernel_rfl))⟩
  f24 := ⟨"slices.reverseRangeCmpFunc[rosary/api.Owned]", by decide, Tryz.func212.trans (congrArg some (by kernel_rfl))⟩
  f25 := ⟨"slices.partialInsertionSortCmpFunc[rosary/api.Owned]", by decide, Tryz.func213.trans (congrArg some (by kernel_rfl))⟩
  f26 := ⟨"slices.partitionEqualCmpFunc[rosary/api.Owned]", by decide, Tryz.func214.trans (congrArg some (by kernel_rfl))⟩
  f27 := ⟨"slices.partitionCmpFunc[rosary/api.Owned]", by decide, Tryz.func215.trans (congrArg some (by kernel_rfl))⟩
  f28 := Tryz.func216.trans (congrArg some (by kernel_rfl))
  f29 := Tryz.func217.trans (congrArg some (by kernel_rfl))
  f46 := ⟨"slices.siftDownCmpFunc[rosary/api.Owned]", by decide, Tryz.func225.trans (congrArg some (by kernel_rfl))⟩
  f47 := Tryz.func226.trans (congrArg some (by kernel_rfl))
  f48 := Tryz.func227.trans (congrArg some (by kernel_rfl))
  f49 := ⟨"slices.medianAdjacentCmpFunc[rosary/api.Owned]", by decide, Tryz.func228.trans (congrArg some (by kernel_rfl))⟩
  f50 := ⟨"slices.medianCmpFunc[rosary/api.Owned]", by decide, Tryz.func229.trans (congrArg some (by kernel_rfl))⟩
  f57 := ⟨"slices.order2CmpFunc[rosary/api.Owned]", by decide, Tryz.func234.trans (congrArg some (by kernel_rfl))⟩
  t0 := Tryz.underlying0
  a0 := Tryz.isAgg0
  z0 := Tryz.sizeOf0
  v0 := Tryz.zeroValue0
  t3 := Tryz.underlying3
  a3 := Tryz.isAgg3
  z3 := Tryz.sizeOf3
  v3 := Tryz.zeroValue3
  t4 := Tryz.underlying4
  a4 := Tryz.isAgg4
  z4 := Tryz.sizeOf4
  v4 := Tryz.zeroValue4
  t5 := Tryz.underlying5
  a5 := Tryz.isAgg5
  z5 := Tryz.sizeOf5
  v5 := Tryz.zeroValue5
  t9 := Tryz.underlying9
  a9 := Tryz.isAgg9
  z9 := Tryz.sizeOf9
  v9 := Tryz.zeroValue9
  t22 := Tryz.underlying72
  a22 := Tryz.isAgg72
  z22 := Tryz.sizeOf72
  v22 := Tryz.zeroValue72
  t25 := Tryz.underlying215
  a25 := Tryz.isAgg215
  z25 := Tryz.sizeOf215
  v25 := Tryz.zeroValue215
  t39 := Tryz.underlying237
  a39 := Tryz.isAgg237
  z39 := Tryz.sizeOf237
  v39 := Tryz.zeroValue237
  t45 := Tryz.underlying261
  a45 := Tryz.isAgg261
  z45 := Tryz.sizeOf261
  v45 := Tryz.zeroValue261
  t46 := Tryz.underlying262
  a46 := Tryz.isAgg262
  z46 := Tryz.sizeOf262
  v46 := Tryz.zeroValue262
  t50 := Tryz.underlying119
  a50 := Tryz.isAgg119
  z50 := Tryz.sizeOf119
  v50 := Tryz.zeroValue119
  t53 := Tryz.underlying268
  a53 := Tryz.isAgg268
  z53 := Tryz.sizeOf268
  v53 := Tryz.zeroValue268
  t55 := Tryz.underlying23
  a55 := Tryz.isAgg23
  z55 := Tryz.sizeOf23
  v55 := Tryz.zeroValue23
  t66 := Tryz.underlying276
  a66 := Tryz.isAgg276
  z66 := Tryz.sizeOf276
  v66 := Tryz.zeroValue276
  t70 := Tryz.underlying280
  a70 := Tryz.isAgg280
  z70 := Tryz.sizeOf280
  v70 := Tryz.zeroValue280
  t76 := Tryz.underlying285
  a76 := Tryz.isAgg285
  z76 := Tryz.sizeOf285
  v76 := Tryz.zeroValue285
  t77 := Tryz.underlying286
  a77 := Tryz.isAgg286
  z77 := Tryz.sizeOf286
  v77 := Tryz.zeroValue286 }
instance : Inhabited AO := ⟨⟨0, 0, 0, 0⟩⟩
def cfO (x y : AO) : Int := if x.f < y.f then -1 else if y.f < x.f then 1 else 0
theorem ltO (x y : AO) : ltOf cfO x y = decide (x.f < y.f) := by
 unfold ltOf cfO
 by_cases h1 : x.f < y.f
 ·simp [h1]
 ·by_cases h2 : y.f < x.f <;> simp [h1, h2]
theorem swoO : Go.Sort.SWO (ltOf cfO) where
 irrefl x := by rw [ltO]; simp
 trans x y z h1 h2 := by rw [ltO] at *; simp at *; omega
 ntrans x y z h1 h2 := by rw [ltO] at *; simp at *; omega
abbrev eK (nd : Int) (p : AO) : List Value := (oC nd p).toList
theorem ym1 (x : Nat) (W : World) : Calls Tryz.prog 195 #[.int .u64 (x : Nat)] W fun e w' => e = .returned (.bool false) ∧ w' = W := by
 have h : ((x : Int) != (x : Int)) = false := by simp
 go_enter Tryz.func195, Tryz.ntmps195
 go_wp2
 go_ret
 exact ⟨by simp, rfl⟩
theorem ys8 (x y : AO) (W : World) : Calls Tryz.prog 174 #[.int .u64 (x.f : Nat), .int .u64 (y.f : Nat)] W fun e w' => e = .returned (.int .i64 (cfO x y)) ∧ w' = W := by
 have C1 := Lib.hid (ym1 x.f)
 have C2 := Lib.hid (ym1 y.f)
 unfold cfO
 generalize x.f = a at *
 generalize y.f = b at *
 by_cases h1 : a < b
 ·have d1 : decide (a < b) = true := decide_eq_true h1
  rw [if_pos h1]
  go_enter Tryz.func174, Tryz.ntmps174
  go_wp2_with (go_at_call 195; (first | (with_reducible refine (C1.out _).mono ?_) | (with_reducible refine (C2.out _).mono ?_)); rintro e w' ⟨rfl, rfl⟩)
  go_ret
  exact ⟨rfl, rfl⟩
 ·have d1 : decide (a < b) = false := decide_eq_false h1
  rw [if_neg h1]
  by_cases h2 : b < a
  ·have d2 : decide (b < a) = true := decide_eq_true h2
   have d3 : decide ((a : Int) > (b : Int)) = true := decide_eq_true (by omega)
   rw [if_pos h2]
   go_enter Tryz.func174, Tryz.ntmps174
   go_wp2_with (go_at_call 195; (first | (with_reducible refine (C1.out _).mono ?_) | (with_reducible refine (C2.out _).mono ?_)); rintro e w' ⟨rfl, rfl⟩)
   go_ret
   exact ⟨rfl, rfl⟩
  ·have d2 : decide (b < a) = false := decide_eq_false h2
   have d3 : decide ((a : Int) > (b : Int)) = false := decide_eq_false (by omega)
   rw [if_neg h2]
   go_enter Tryz.func174, Tryz.ntmps174
   go_wp2_with (go_at_call 195; (first | (with_reducible refine (C1.out _).mono ?_) | (with_reducible refine (C2.out _).mono ?_)); rintro e w' ⟨rfl, rfl⟩)
   go_ret
   exact ⟨rfl, rfl⟩
theorem ys9 (nd : Int) (x y : AO) (W : World) : Calls Tryz.prog 173 #[.agg (oC nd x), .agg (oC nd y)] W fun e w' => e = .returned (.int .i64 (cfO x y)) ∧ ∃ q os', w' = Go.Sort.grow (W.drewN q) os' := by
 have CC := Lib.hid (ys8 x y)
 generalize cfO x y = r at *
 go_enter Tryz.func173, Tryz.ntmps173
 go_wp2_with (go_at_call 174; (with_reducible refine (CC.out _).mono ?_); rintro e w' ⟨rfl, rfl⟩)
 go_ret
 exact ⟨rfl, 0, _, by rw [Go.Sort.alloc_eq_grow, Go.Sort.alloc_eq_grow, Go.Sort.grow_grow]; rfl⟩
theorem ym2 (nd : Int) (d : Array AO) : (Go.Sort.flatK (eK nd) 4 d).toList = rowC (oC nd) d.toList := by
 have hlen : (Go.Sort.flatK (eK nd) 4 d).toList.length = (rowC (oC nd) d.toList).length := by rw [ydh (ycf nd), Array.length_toList, Go.Sort.size_flatK, Array.length_toList]
 refine List.ext_getElem hlen fun j h1 h2 => ?_
 have hj : j < d.size * 4 := by simpa using h1
 have hq : j / 4 < d.size := by omega
 have hx : d.toList[j / 4]? = some d[j / 4]! := by rw [Array.getElem?_toList, Array.getElem?_eq_getElem hq, getElem!_pos d _ hq]
 have hr := yeo (ycf nd) d.toList (j / 4) (j % 4) _ hx (Nat.mod_lt _ (by omega))
 rw [show j / 4 * 4 + j % 4 = j by omega, List.getElem?_eq_getElem h2] at hr
 have hf := Go.Sort.get_flatK (eK nd) 4 d j hj
 rw [getElem!_pos _ j (by simpa using hj)] at hf
 have h4 : j % 4 < (oC nd d[j / 4]!).size := by rw [ycf]; exact Nat.mod_lt _ (by omega)
 rw [Array.getElem_toList, hf]
 rw [Array.getElem?_eq_getElem h4] at hr
 rw [Option.some.inj hr, getElem!_pos _ _ (by simpa using h4), Array.getElem_toList]
theorem yta {W : World} {g o n c : Nat} {nd : Int} {l : List AO} (h : ya9 W (.slice (some ⟨g, o, none⟩) n c) n nd l) : Go.Sort.HoldsK (eK nd) 4 W g o l.toArray := by
 intro j hj
 have hf := ym2 nd l.toArray
 have hj' : j < l.length * 4 := by simpa using hj
 have hl := ydh (ycf nd) l
 have h1 := h.cellAt j (by rw [hl]; omega)
 refine ⟨?_, ygp h _⟩
 rw [h1, ← hf, Array.getElem?_toList, getElem!_pos _ j hj]
 exact Array.getElem?_eq_getElem hj
theorem heap_sorted {w : World} {g o m : Nat} {os : Array Obj} {cur : Array Value} {e : TypeId} {fr : Nat × Nat} (F : Array Value) (hb : w.heap[g]? = some (.cells cur e fr)) :
  (Go.Sort.grow (Go.Sort.putRow id (Go.Sort.ahead w m) g o F) os).heap[g]? = some (.cells (Go.Sort.putCells id o F cur) e fr) := by
 have hg : g < w.heap.size := (Array.getElem?_eq_some_iff.1 hb).1
 rw [Go.Sort.heap_grow_old _ _ (by simpa using hg)]
 simp [Go.Sort.putRow, Go.Sort.mapBlock, Go.Sort.ahead, Array.getElem?_modify, hb, Go.Sort.onCells]
theorem ytb {w : World} {g o m : Nat} {os : Array Obj} (F : Array Value) : Touch [g] w (Go.Sort.grow (Go.Sort.putRow id (Go.Sort.ahead w m) g o F) os) := by
 refine ⟨rfl, rfl, rfl, by simp, fun k hk hne => ?_⟩
 rw [Go.Sort.heap_grow_old _ _ (by simpa using hk)]
 have : g ≠ k := fun e => hne (by simp [e])
 simp [Go.Sort.putRow, Go.Sort.mapBlock, Go.Sort.ahead, Array.getElem?_modify, this]
theorem ytc {w : World} {g o n c m : Nat} {os : Array Obj} {nd : Int} {l : List AO} {d : Array AO} (h : ya9 w (.slice (some ⟨g, o, none⟩) n c) n nd l) (hd : d.size = l.length) :
  ya9 (sortWorldK (eK nd) 4 w g o m d os) (.slice (some ⟨g, o, none⟩) n c) n nd d.toList := by
 have hn := yc8 h
 rcases h.2 with ⟨h0, _⟩ | ⟨g', o', c', cur, hv, h1, h2, h3, h4, h5⟩
 ·cases h0
 injection hv with e1 _ e3
 injection e1 with e1
 injection e1 with e1 e2 _
 subst e1 e2 e3
 refine ⟨by rw [ydh (ycf nd), Array.length_toList, hd, hn], .inr ⟨g, o, c, _, rfl, heap_sorted _ h1, h2, h3, by simp [Go.Sort.putCells, h4], ?_⟩⟩
 have hs : (Go.Sort.flatK (eK nd) 4 d).size = n * 4 := by rw [Go.Sort.size_flatK, hd, hn]
 rw [← ym2]
 apply List.ext_getElem?
 intro j
 by_cases hj : j < n * 4
 ·have hc : o + j < cur.size := by
   have := Nat.mul_le_mul_right 4 h2
   omega
  rw [List.getElem?_take_of_lt hj, List.getElem?_drop, Array.getElem?_toList, Array.getElem?_toList]
  simp [Go.Sort.putCells, hs, hj, hc]
 ·rw [List.getElem?_take_eq_none (by omega), List.getElem?_eq_none (by simp [hs]; omega)]
def ym3 (W : World) (A : Option Addr) (n c : Nat) (nd : Int) (l : List AO) (e : Ending) (w' : World) : Prop :=
 e = .returned (.tuple #[]) ∧ ∃ D : List AO, D.Perm l ∧ (D.Pairwise fun p q => p.f ≤ q.f) ∧ ya9 w' (.slice A n c) n nd D ∧ Touch ((Value.slice A n c).ownBlock.toList) W w'
theorem ytd (l : List AO) (nd : Int) (g o c n : Nat) (W : World) (hr : ya9 W (.slice (some ⟨g, o, none⟩) n c) n nd l) (hl : n ≤ 100000) :
  Calls Tryz.prog 172 #[.slice (some ⟨g, o, none⟩) n c, .func (.func 173) #[] #[]] W (ym3 W (some ⟨g, o, none⟩) n c nd l) := by
 have hn := yc8 hr
 have eg : ∀ args w, (callFunc 173 args).run Tryz.prog w = .ok (.enter 173 args) w := enters_of Tryz.func173 (by kernel_rfl) rfl
 have h1 := hr.lt g rfl
 have hcon := AnyQ.slices_SortFunc ym0 4 Tryz.isAgg152 Tryz.sizeOf152 (eK nd) (fun _ => rfl) (fun x v hv => by simp [eK] at hv; rcases hv with rfl | rfl | rfl | rfl <;> rfl) cfO swoO 173 #[] g o c l.toArray W eg (fun _ _ _ _ x y => ys9 nd x y _) (yta hr) h1 (by simp; omega)
 have hs : l.toArray.size = n := by simpa using hn
 rw [hs] at hcon
 refine hcon.mono ?_
 rintro e w' ⟨rfl, d, m, os, ⟨hp1, _, hp⟩, hq, rfl⟩
 have hd : d.size = n := hp1.trans hs
 have e1 : d.extract 0 n = d := by rw [← hd]; simp
 have e2 : l.toArray.extract 0 n = l.toArray := by rw [← hs]; simp
 rw [e1, e2] at hp
 refine ⟨rfl, d.toList, by simpa using hp, ?_, ytc hr (by rw [hd, hn]), ytb _⟩
 refine List.pairwise_iff_getElem.2 fun i j hi hj hij => ?_
 have hi' : i < d.size := by simpa using hi
 have hj' : j < d.size := by simpa using hj
 have := hq i j (Nat.zero_le _) hij (by omega)
 rw [ltO, getElem!_pos d i hi', getElem!_pos d j hj'] at this
 simpa using this
theorem yte (c : Nat) (fv : Value) (W : World) : Calls Tryz.prog 208 #[.slice none 0 c, .int .i64 0, .int .i64 0, fv] W fun e w' => e = .returned (.tuple #[]) ∧ w' = W := by
 go_enter Tryz.func208, Tryz.ntmps208
 go_wp2
 refine wp_loop_rounds 1 ?_
 rw [rounds_succ]
 go_wp2
 go_end0
 exact ⟨rfl, rfl⟩
theorem ytf (c : Nat) (lim : Int) (fv : Value) (W : World) : Calls Tryz.prog 193 #[.slice none 0 c, .int .i64 0, .int .i64 0, .int .i64 lim, fv] W fun e w' => e = .returned (.tuple #[]) ∧ w' = W := by
 have CI := Lib.hid (yte c fv)
 go_enter Tryz.func193, Tryz.ntmps193
 go_wp2
 refine wp_loop_rounds 1 ?_
 rw [rounds_succ]
 go_wp2_with (go_at_call 208; (with_reducible refine (CI.out _).mono ?_); rintro e w' ⟨rfl, rfl⟩)
 (try simp only [Exit.inBlock, Exit.then]); refine bodyPost_ret (results_none rfl _ _ _) rfl ?_
 exact ⟨rfl, rfl⟩
theorem ytg (c : Nat) (fv : Value) (W : World) : Calls Tryz.prog 172 #[.slice none 0 c, fv] W fun e w' => e = .returned (.tuple #[]) ∧ w' = W := by
 have hl : Calls Tryz.prog 194 #[.int .u64 (0 : Int)] W fun e w' => e = .returned (.int .i64 (Lib.bitLen 0 : Nat)) ∧ w' = W := by
  have h := Any.bits_Len (SlLaysF0.n15.bits (P := Tryz.prog) (ρ := ymz) { ym0 with }) (0 : Int) W (by omega) (by omega)
  exact h
 have CL := Lib.hid hl
 have CP := Lib.hid fun lim => ytf c lim fv W
 clear hl
 generalize ((Lib.bitLen 0 : Nat) : Int) = lim at *
 go_enter Tryz.func172, Tryz.ntmps172
 go_wp2_with (first
  | (go_at_call 194; (with_reducible refine (CL.out).mono ?_); rintro e w' ⟨rfl, rfl⟩)
  | (go_at_call 193; (with_reducible refine (CP.out _).mono ?_); rintro e w' ⟨rfl, rfl⟩))
 go_end0
 exact ⟨rfl, rfl⟩
theorem yth (l : List AO) (nd : Int) (A : Option Addr) (c n : Nat) (W : World) (hr : ya9 W (.slice A n c) n nd l) (hl : n ≤ 100000) :
  Calls Tryz.prog 172 #[.slice A n c, .func (.func 173) #[] #[]] W (ym3 W A n c nd l) := by
 rcases hr.2 with ⟨h0, h1⟩ | ⟨g, o, cap, cur, h0, _⟩
 ·injection h0 with e1 e2 e3
  subst e1 e2
  refine (ytg c _ W).mono ?_
  rintro e w' ⟨rfl, rfl⟩
  have : l = [] := List.length_eq_zero_iff.1 (yc8 hr)
  subst this
  exact ⟨rfl, [], List.Perm.refl _, List.Pairwise.nil, hr, Touch.refl _ _⟩
 ·injection h0 with e1 e2 e3
  subst e1
  exact ytd l nd g o c n W hr hl
theorem yti (nd : Int) (p q : AO) (W : World) : Calls Tryz.prog 118 #[.agg (oC nd p), .agg (oC nd q)] W fun e w' => e = .returned (.bool (mayJ false p q)) ∧ Below W.heap.size W w' := by
 have h : (p.e == q.e) = mayJ false p q := by unfold mayJ; simp
 have HB : Hid (Below W.heap.size W ((W.alloc (.cells (oC nd p) 152)).alloc (.cells (oC nd q) 152))) := ((Below.refl _ _).alloc (Nat.le_refl _) _).alloc (by simp) _
 generalize mayJ false p q = r at *
 go_enter Tryz.func118, Tryz.ntmps118
 go_wp2
 go_ret
 exact ⟨rfl, HB.out⟩
theorem ytj (nd : Int) (p q : AO) (W : World) : Calls Tryz.prog 124 #[.agg (oC nd p), .agg (oC nd q)] W fun e w' => e = .returned (.bool (mayJ true p q)) ∧ Below W.heap.size W w' := by
 go_enter Tryz.func124, Tryz.ntmps124
 go_wp2
 go_ret
 refine ⟨rfl, ?_⟩
 first | exact Below.refl _ _ | exact ((Below.refl _ _).alloc (Nat.le_refl _) _).alloc (by simp) _
def Bx (w : World) (b : Nat) (cs : Array Value) (T : TypeId) : Prop := w.heap[b]? = some (.cells cs T)
theorem Bx.new (w : World) (cs : Array Value) (T : TypeId) : Bx (w.alloc (.cells cs T)) w.heap.size cs T := heap_alloc_new w _
theorem Bx.below {w w1 : World} {b : Nat} {cs : Array Value} {T : TypeId} (h : Bx w b cs T) (t : Below w.heap.size w w1) : Bx w1 b cs T := (t.block b (yca h)).trans h
theorem Bx.old {w : World} {b : Nat} {cs : Array Value} {T : TypeId} (h : Bx w b cs T) (o : Obj) : Bx (w.alloc o) b cs T := h.below ((Below.refl _ _).alloc (Nat.le_refl _) o)
theorem Bx.four {w : World} {b : Nat} {a c d e : Value} {T : TypeId} (h : Bx w b #[a, c, d, e] T) : w.cell? ⟨b, 0, none⟩ = some a ∧ w.cell? ⟨b, 1, none⟩ = some c ∧ w.cell? ⟨b, 2, none⟩ = some d ∧ w.cell? ⟨b, 3, none⟩ = some e ∧ b < w.heap.size := ⟨yaw h rfl, yaw h rfl, yaw h rfl, yaw h rfl, yca h⟩
theorem Bx.two {w : World} {b : Nat} {a c : Value} {T : TypeId} (h : Bx w b #[a, c] T) : w.cell? ⟨b, 0, none⟩ = some a ∧ w.cell? ⟨b, 1, none⟩ = some c ∧ b < w.heap.size := ⟨yaw h rfl, yaw h rfl, yca h⟩
theorem Bx.free {w : World} {b : Nat} {cs : Array Value} {T : TypeId} (h : Bx w b cs T) (i : Nat) : w.frozen? ⟨b, i, none⟩ = false := by simp [World.frozen?, show w.heap[b]? = _ from h]
theorem yb6 {w : World} {b : Nat} {cs : Array Value} {T : TypeId} (h : Bx w b cs T) (i : Nat) (u : Value) : Bx (w.setCell ⟨b, i, none⟩ u) b (cs.setIfInBounds i u) T := by
 have h' : w.heap[b]? = some (.cells cs T) := h
 show (w.setCell ⟨b, i, none⟩ u).heap[b]? = _
 simp [World.setCell, Array.getElem?_modify, h']
theorem Bx.put4 {w : World} {b : Nat} {x0 x1 x2 x3 : Value} {T : TypeId} (h : Bx w b #[x0, x1, x2, x3] T) (a c d e : Value) : Bx ((((w.setCell ⟨b, 0, none⟩ a).setCell ⟨b, 1, none⟩ c).setCell ⟨b, 2, none⟩ d).setCell ⟨b, 3, none⟩ e) b #[a, c, d, e] T := yb6 (yb6 (yb6 (yb6 h 0 a) 1 c) 2 d) 3 e
theorem Bx.put2 {w : World} {b : Nat} {x0 x1 : Value} {T : TypeId} (h : Bx w b #[x0, x1] T) (a c : Value) : Bx ((w.setCell ⟨b, 0, none⟩ a).setCell ⟨b, 1, none⟩ c) b #[a, c] T := yb6 (yb6 h 0 a) 1 c
theorem Bx.other {w : World} {b k : Nat} {cs : Array Value} {T : TypeId} (h : Bx w b cs T) (i : Nat) (u : Value) (hn : b ≠ k) : Bx (w.setCell ⟨k, i, none⟩ u) b cs T := by
 have h' : w.heap[b]? = some (.cells cs T) := h
 show (w.setCell ⟨k, i, none⟩ u).heap[b]? = _
 simp only [World.setCell]
 rw [Array.getElem?_modify, if_neg (fun e => hn e.symm)]
 exact h'
theorem yft (w : World) (p : Addr) (u : Value) : (w.setCell p u).heap.size = w.heap.size := by simp [World.setCell]
abbrev o0 : Array Value := #[.int .u64 0, .int .u64 0, .int .i64 0, .int .i64 0]
abbrev z2 : Array Value := #[.int .u64 0, .int .u64 0]
abbrev a2 (f t : Nat) : Array Value := #[.int .u64 (f : Nat), .int .u64 (t : Nat)]
theorem yan {W w : World} {b : Nat} (h : Below W.heap.size W w) (hb : W.heap.size ≤ b) (o : Nat) (u : Value) : Below W.heap.size W (w.setCell ⟨b, o, none⟩ u) := by
 refine ⟨h.os, h.tape, h.output, ?_, fun k hk => ?_⟩
 ·simpa [World.setCell] using h.size
 ·rw [← h.block k hk]
  simp only [World.setCell]
  rw [Array.getElem?_modify]
  split
  ·omega
  ·rfl
theorem yid (nd : Int) (p : AO) (f t : Nat) (W : World) : Calls Tryz.prog 197 #[.agg (oC nd p), .agg (a2 f t)] W fun e w' => e = .returned (.agg (oC nd ⟨f, t, p.n, p.e⟩)) ∧ Below W.heap.size W w' := by
 have B0 : Below W.heap.size W (((W.alloc (.cells (oC nd p) 152)).alloc (.cells (a2 f t) 25)).alloc (.cells o0 152)) := (((Below.refl _ _).alloc (Nat.le_refl _) _).alloc (by simp) _).alloc (by simp; omega) _
 have b1 := ((Bx.new W (oC nd p) 152).old (.cells (a2 f t) 25)).old (.cells o0 152)
 have b2 := (Bx.new (W.alloc (.cells (oC nd p) 152)) (a2 f t) 25).old (.cells o0 152)
 have b3 := Bx.new ((W.alloc (.cells (oC nd p) 152)).alloc (.cells (a2 f t) 25)) o0 152
 simp only [World.size_alloc] at b2 b3
 go_enter Tryz.func197, Tryz.ntmps197
 go_upto_region 1 with fail
 obtain ⟨w0, hw0⟩ : ∃ w0, ((W.alloc (.cells (oC nd p) 152)).alloc (.cells (a2 f t) 25)).alloc (.cells o0 152) = w0 := ⟨_, rfl⟩
 rw [hw0] at B0 b1 b2 b3 ⊢
 clear hw0
 have HB := Lib.hid B0
 obtain ⟨c0, c1, c2, c3, l1⟩ := b1.four
 obtain ⟨d0, d1, l2⟩ := b2.two
 obtain ⟨e0, e1, e2, e3, l3⟩ := b3.four
 have f0 := b1.free 0
 have f1 := b1.free 1
 have g0 := b3.free 0
 have g1 := b3.free 1
 have g2 := b3.free 2
 have g3 := b3.free 3
 have HX3 := Lib.hid b3
 clear b1 b2 b3 B0
 go_wp2
 refine bodyPost_ret (v := .agg (oC nd ⟨f, t, p.n, p.e⟩)) ?_ rfl ⟨rfl, ?_⟩
 ·obtain ⟨s0, s1, s2, s3, _⟩ := (((HX3.out.other 0 (.int .u64 (f : Nat)) (k := W.heap.size) (by omega)).other 1 (.int .u64 (t : Nat)) (k := W.heap.size) (by omega)).put4 (.int .u64 (f : Nat)) (.int .u64 (t : Nat)) (.int .i64 nd) (.int .i64 p.e)).four
  simp [results, Tryz.results197, go_sem, s0, s1, s2, s3]
 ·repeat (first | with_reducible exact HB.out | with_reducible refine yan ?_ (by omega) _ _)
def yee (b : Bool) (nd : Int) (p q : AO) (W : World) (e : Ending) (w' : World) : Prop :=
 e = .returned (.tuple #[if okJ b p q = true then .agg (oC nd (yap p q)) else .agg o0, .bool (okJ b p q)]) ∧ Below W.heap.size W w'
theorem ytk (nd : Int) (p q : AO) (W : World) (hp : p.lt) (hq : q.lt) : Calls Tryz.prog 175 #[.agg (oC nd p), .agg (oC nd q), .func (.func 118) #[] #[]] W (yee false nd p q W) := by
 have CJ := Lib.hid fun W => ymg p.f p.t q.f q.t W hp.1 hp.2 hq.1 hq.2
 have CM := Lib.hid fun W => yti nd p q W
 have CA := Lib.hid fun W => yid nd ⟨p.f, p.t, p.n, max p.e q.e⟩ p.f q.t W
 have hi : ∀ a w, (callFunc 118 a).run Tryz.prog w = .ok (.enter 118 a) w := fun _ _ => by kernel_rfl
 have hok : okJ false p q = (yet p.f p.t q.f q.t && mayJ false p q) := rfl
 unfold yee
 rw [hok]
 obtain ⟨m, hm⟩ : ∃ m, max p.e q.e = m := ⟨_, rfl⟩
 have hb : yap p q = ⟨p.f, q.t, p.n, m⟩ := by unfold yap; rw [hm]
 rw [hb]
 rw [hm] at CA
 have hmx := hm
 obtain ⟨j, hj⟩ : ∃ j, yet p.f p.t q.f q.t = j := ⟨_, rfl⟩
 obtain ⟨k, hk⟩ : ∃ k, mayJ false p q = k := ⟨_, rfl⟩
 rw [hj] at CJ ⊢
 rw [hk] at CM ⊢
 clear hj hk hok hm hb hp hq
 have HMX := Lib.hid hmx
 have B0 : Below W.heap.size W (((W.alloc (.cells (oC nd p) 152)).alloc (.cells (oC nd q) 152)).alloc (.cells o0 152)) := (((Below.refl _ _).alloc (Nat.le_refl _) _).alloc (by simp) _).alloc (by simp; omega) _
 have b1 := ((Bx.new W (oC nd p) 152).old (.cells (oC nd q) 152)).old (.cells o0 152)
 have b2 := (Bx.new (W.alloc (.cells (oC nd p) 152)) (oC nd q) 152).old (.cells o0 152)
 have b3 := Bx.new ((W.alloc (.cells (oC nd p) 152)).alloc (.cells (oC nd q) 152)) o0 152
 simp only [World.size_alloc] at b2 b3
 clear hmx
 cases j
 ·simp only [yh6] at CJ
  simp only [Bool.false_and, Bool.false_eq_true, if_false]
  go_enter Tryz.func175, Tryz.ntmps175
  go_upto_region 1 with fail
  obtain ⟨w0, hw0⟩ : ∃ w0, ((W.alloc (.cells (oC nd p) 152)).alloc (.cells (oC nd q) 152)).alloc (.cells o0 152) = w0 := ⟨_, rfl⟩
  rw [hw0] at B0 b1 b2 b3 ⊢
  clear hw0
  have HB0 := Lib.hid B0
  have HX1 := Lib.hid b1
  have HX2 := Lib.hid b2
  have HX3 := Lib.hid b3
  obtain ⟨c0, c1, c2, c3, l1⟩ := b1.four
  obtain ⟨d0, d1, d2, d3, l2⟩ := b2.four
  have l3 := b3.four.2.2.2.2
  clear b1 b2 b3 B0
  go_upto_region 2 with (go_at_call 196; (with_reducible refine (CJ.out _).mono ?_); rintro e w1 ⟨rfl, hb1⟩; have HB1 := Lib.hid hb1; have hs1 := hb1.size; clear hb1)
  clear c0 c1 c2 c3 d0 d1 d2 d3
  have HC1 : Hid (Below W.heap.size W w1) := acc HB0.out HB1.out
  have b1 := HX1.out.below HB1.out
  have b2 := HX2.out.below HB1.out
  have b3 := HX3.out.below HB1.out
  obtain ⟨e0, e1, e2, e3, _⟩ := b3.four
  have g0 := b3.free 0
  have g1 := b3.free 1
  have g2 := b3.free 2
  have g3 := b3.free 3
  have hl := HC1.out.size
  clear b1 b2 b3
  have HX3b := Lib.hid (HX3.out.below HB1.out)
  go_wp2
  refine bodyPost_ret (v := .tuple #[.agg o0, .bool false]) ?_ rfl ⟨rfl, ?_⟩
  ·obtain ⟨s0, s1, s2, s3, _⟩ := ((HX3b.out.put4 (.int .u64 0) (.int .u64 0) (.int .i64 0) (.int .i64 0)).old (.cells z2 25)).four
   simp [results, Tryz.results175, go_sem, s0, s1, s2, s3]
  ·repeat (first | with_reducible exact HC1.out | with_reducible refine yan ?_ (by omega) _ _ | with_reducible refine Below.alloc ?_ (by first | omega | (simp only [yft]; omega)) _)
 ·simp only [yh5] at CJ
  simp only [Bool.true_and]
  cases k
  ·simp only [Bool.false_eq_true, if_false]
   go_enter Tryz.func175, Tryz.ntmps175
   go_upto_region 1 with fail
   obtain ⟨w0, hw0⟩ : ∃ w0, ((W.alloc (.cells (oC nd p) 152)).alloc (.cells (oC nd q) 152)).alloc (.cells o0 152) = w0 := ⟨_, rfl⟩
   rw [hw0] at B0 b1 b2 b3 ⊢
   clear hw0
   have HB0 := Lib.hid B0
   have HX1 := Lib.hid b1
   have HX2 := Lib.hid b2
   have HX3 := Lib.hid b3
   obtain ⟨c0, c1, c2, c3, l1⟩ := b1.four
   obtain ⟨d0, d1, d2, d3, l2⟩ := b2.four
   have l3 := b3.four.2.2.2.2
   clear b1 b2 b3 B0
   go_upto_region 2 with (go_at_call 196; (with_reducible refine (CJ.out _).mono ?_); rintro e w1 ⟨rfl, hb1⟩; have HB1 := Lib.hid hb1; have hs1 := hb1.size; clear hb1)
   clear c0 c1 c2 c3 d0 d1 d2 d3
   have HC1 : Hid (Below W.heap.size W w1) := acc HB0.out HB1.out
   have b1 := HX1.out.below HB1.out
   have b2 := HX2.out.below HB1.out
   have b3 := HX3.out.below HB1.out
   have hl := HC1.out.size
   have HY1 := Lib.hid (b1.old (.cells (a2 p.f q.t) 25))
   have HY2 := Lib.hid (b2.old (.cells (a2 p.f q.t) 25))
   have HY3 := Lib.hid (b3.old (.cells (a2 p.f q.t) 25))
   have HY4 := Lib.hid (Bx.new w1 (a2 p.f q.t) 25)
   have HC2 : Hid (Below W.heap.size W (w1.alloc (.cells (a2 p.f q.t) 25))) := HC1.out.alloc (by omega) _
   clear b1 b2 b3
   obtain ⟨w2, hw2⟩ : ∃ w2, (w1.alloc (.cells (a2 p.f q.t) 25)) = w2 := ⟨_, rfl⟩
   rw [hw2] at HY1 HY2 HY3 HY4 HC2
   rw [hw2]
   clear hw2
   obtain ⟨z, hz⟩ : ∃ z, w1.heap.size = z := ⟨_, rfl⟩
   rw [hz] at HY4 ⊢
   have hz2 : W.heap.size + 3 ≤ z := by omega
   obtain ⟨c0, c1, c2, c3, l1⟩ := HY1.out.four
   obtain ⟨d0, d1, d2, d3, l2⟩ := HY2.out.four
   go_upto_region 3 with (go_at_call 118; (with_reducible refine (CM.out _).mono ?_); rintro e w3 ⟨rfl, hb3⟩; have HB3 := Lib.hid hb3; have hs3 := hb3.size; clear hb3)
   have HC3 : Hid (Below W.heap.size W w3) := acc HC2.out HB3.out
   have HY5 := Lib.hid (HY3.out.below HB3.out)
   obtain ⟨e0, e1, e2, e3, _⟩ := HY5.out.four
   have g0 := HY5.out.free 0
   have g1 := HY5.out.free 1
   have g2 := HY5.out.free 2
   have g3 := HY5.out.free 3
   go_wp2
   refine bodyPost_ret (v := .tuple #[.agg o0, .bool false]) ?_ rfl ⟨rfl, ?_⟩
   ·obtain ⟨s0, s1, s2, s3, _⟩ := (HY5.out.put4 (.int .u64 0) (.int .u64 0) (.int .i64 0) (.int .i64 0)).four
    simp [results, Tryz.results175, go_sem, s0, s1, s2, s3]
   ·repeat (first | with_reducible exact HC3.out | with_reducible refine yan ?_ (by omega) _ _ | with_reducible refine Below.alloc ?_ (by first | omega | (simp only [yft]; omega)) _)
  ·simp only [if_true]
   go_enter Tryz.func175, Tryz.ntmps175
   go_upto_region 1 with fail
   obtain ⟨w0, hw0⟩ : ∃ w0, ((W.alloc (.cells (oC nd p) 152)).alloc (.cells (oC nd q) 152)).alloc (.cells o0 152) = w0 := ⟨_, rfl⟩
   rw [hw0] at B0 b1 b2 b3 ⊢
   clear hw0
   have HB0 := Lib.hid B0
   have HX1 := Lib.hid b1
   have HX2 := Lib.hid b2
   have HX3 := Lib.hid b3
   obtain ⟨c0, c1, c2, c3, l1⟩ := b1.four
   obtain ⟨d0, d1, d2, d3, l2⟩ := b2.four
   have l3 := b3.four.2.2.2.2
   clear b1 b2 b3 B0
   go_upto_region 2 with (go_at_call 196; (with_reducible refine (CJ.out _).mono ?_); rintro e w1 ⟨rfl, hb1⟩; have HB1 := Lib.hid hb1; have hs1 := hb1.size; clear hb1)
   clear c0 c1 c2 c3 d0 d1 d2 d3
   have HC1 : Hid (Below W.heap.size W w1) := acc HB0.out HB1.out
   have b1 := HX1.out.below HB1.out
   have b2 := HX2.out.below HB1.out
   have b3 := HX3.out.below HB1.out
   have hl := HC1.out.size
   have HY1 := Lib.hid (b1.old (.cells (a2 p.f q.t) 25))
   have HY2 := Lib.hid (b2.old (.cells (a2 p.f q.t) 25))
   have HY3 := Lib.hid (b3.old (.cells (a2 p.f q.t) 25))
   have HY4 := Lib.hid (Bx.new w1 (a2 p.f q.t) 25)
   have HC2 : Hid (Below W.heap.size W (w1.alloc (.cells (a2 p.f q.t) 25))) := HC1.out.alloc (by omega) _
   clear b1 b2 b3
   obtain ⟨w2, hw2⟩ : ∃ w2, (w1.alloc (.cells (a2 p.f q.t) 25)) = w2 := ⟨_, rfl⟩
   rw [hw2] at HY1 HY2 HY3 HY4 HC2
   rw [hw2]
   clear hw2
   obtain ⟨z, hz⟩ : ∃ z, w1.heap.size = z := ⟨_, rfl⟩
   rw [hz] at HY4 ⊢
   have hz2 : W.heap.size + 3 ≤ z := by omega
   obtain ⟨c0, c1, c2, c3, l1⟩ := HY1.out.four
   obtain ⟨d0, d1, d2, d3, l2⟩ := HY2.out.four
   go_upto_region 4 with (go_at_call 118; (with_reducible refine (CM.out _).mono ?_); rintro e w3 ⟨rfl, hb3⟩; have HB3 := Lib.hid hb3; have hs3 := hb3.size; clear hb3)
   clear c0 c1 c2 c3 d0 d1 d2 d3
   have HC3 : Hid (Below W.heap.size W w3) := acc HC2.out HB3.out
   have HV1 := Lib.hid (HY1.out.below HB3.out)
   have HV3 := Lib.hid (HY3.out.below HB3.out)
   have HV4 := Lib.hid (HY4.out.below HB3.out)
   obtain ⟨c0, c1, c2, c3, _⟩ := HV1.out.four
   obtain ⟨d0, d1, d2, d3, _⟩ := (HY2.out.below HB3.out).four
   have f3 := HV1.out.free 3
   have hmx := HMX.out
   have l4 := HY4.out.two.2.2
   go_upto_region 5 with fail
   clear c0 c1 c2 c3 d0 d1 d2 d3 f3 hmx
   have HU1 := Lib.hid (yb6 HV1.out 3 (.int .i64 m))
   have HU3 := Lib.hid (HV3.out.other 3 (.int .i64 m) (k := W.heap.size) (by omega))
   have HU4 := Lib.hid (HV4.out.other 3 (.int .i64 m) (k := W.heap.size) (by omega))
   have HC4 : Hid (Below W.heap.size W (w3.setCell ⟨W.heap.size, 3, none⟩ (.int .i64 m))) := yan HC3.out (Nat.le_refl _) _ _
   obtain ⟨w4, hw4⟩ : ∃ w4, w3.setCell ⟨W.heap.size, 3, none⟩ (.int .i64 m) = w4 := ⟨_, rfl⟩
   rw [hw4] at HU1 HU3 HU4 HC4 ⊢
   clear hw4
   obtain ⟨c0, c1, c2, c3, _⟩ := Bx.four (a := .int .u64 (p.f : Nat)) (c := .int .u64 (p.t : Nat)) (d := .int .i64 nd) (e := .int .i64 m) HU1.out
   obtain ⟨d0, d1, _⟩ := HU4.out.two
   go_wp2_with (go_at_call 197; (with_reducible refine (CA.out _).mono ?_); rintro e w5 ⟨rfl, hb5⟩; have HB5 := Lib.hid hb5; have HU5 := Lib.hid (HU3.out.below hb5); have HC5 : Hid (Below W.heap.size W w5) := (acc HC4.out hb5); obtain ⟨e0, e1, e2, e3, _⟩ := HU5.out.four; have g0 := HU5.out.free 0; have g1 := HU5.out.free 1; have g2 := HU5.out.free 2; have g3 := HU5.out.free 3; clear hb5)
   refine bodyPost_ret (v := .tuple #[.agg (oC nd ⟨p.f, q.t, p.n, m⟩), .bool true]) ?_ rfl ⟨rfl, ?_⟩
   ·obtain ⟨s0, s1, s2, s3, _⟩ := (HU5.out.put4 (.int .u64 (p.f : Nat)) (.int .u64 (q.t : Nat)) (.int .i64 nd) (.int .i64 m)).four
    simp [results, Tryz.results175, go_sem, s0, s1, s2, s3]
   ·repeat (first | with_reducible exact HC5.out | with_reducible refine yan ?_ (by omega) _ _ | with_reducible refine Below.alloc ?_ (by first | omega | (simp only [yft]; omega)) _)
theorem ytl (nd : Int) (p q : AO) (W : World) (hp : p.lt) (hq : q.lt) : Calls Tryz.prog 175 #[.agg (oC nd p), .agg (oC nd q), .func (.func 124) #[] #[]] W (yee true nd p q W) := by
 have CJ := Lib.hid fun W => ymg p.f p.t q.f q.t W hp.1 hp.2 hq.1 hq.2
 have CM := Lib.hid fun W => ytj nd p q W
 have CA := Lib.hid fun W => yid nd ⟨p.f, p.t, p.n, max p.e q.e⟩ p.f q.t W
 have hi : ∀ a w, (callFunc 124 a).run Tryz.prog w = .ok (.enter 124 a) w := fun _ _ => by kernel_rfl
 have hok : okJ true p q = (yet p.f p.t q.f q.t && mayJ true p q) := rfl
 unfold yee
 rw [hok]
 obtain ⟨m, hm⟩ : ∃ m, max p.e q.e = m := ⟨_, rfl⟩
 have hb : yap p q = ⟨p.f, q.t, p.n, m⟩ := by unfold yap; rw [hm]
 rw [hb]
 rw [hm] at CA
 have hmx := hm
 obtain ⟨j, hj⟩ : ∃ j, yet p.f p.t q.f q.t = j := ⟨_, rfl⟩
 obtain ⟨k, hk⟩ : ∃ k, mayJ true p q = k := ⟨_, rfl⟩
 rw [hj] at CJ ⊢
 rw [hk] at CM ⊢
 clear hj hk hok hm hb hp hq
 have HMX := Lib.hid hmx
 have B0 : Below W.heap.size W (((W.alloc (.cells (oC nd p) 152)).alloc (.cells (oC nd q) 152)).alloc (.cells o0 152)) := (((Below.refl _ _).alloc (Nat.le_refl _) _).alloc (by simp) _).alloc (by simp; omega) _
 have b1 := ((Bx.new W (oC nd p) 152).old (.cells (oC nd q) 152)).old (.cells o0 152)
 have b2 := (Bx.new (W.alloc (.cells (oC nd p) 152)) (oC nd q) 152).old (.cells o0 152)
 have b3 := Bx.new ((W.alloc (.cells (oC nd p) 152)).alloc (.cells (oC nd q) 152)) o0 152
 simp only [World.size_alloc] at b2 b3
 clear hmx
 cases j
 ·simp only [yh6] at CJ
  simp only [Bool.false_and, Bool.false_eq_true, if_false]
  go_enter Tryz.func175, Tryz.ntmps175
  go_upto_region 1 with fail
  obtain ⟨w0, hw0⟩ : ∃ w0, ((W.alloc (.cells (oC nd p) 152)).alloc (.cells (oC nd q) 152)).alloc (.cells o0 152) = w0 := ⟨_, rfl⟩
  rw [hw0] at B0 b1 b2 b3 ⊢
  clear hw0
  have HB0 := Lib.hid B0
  have HX1 := Lib.hid b1
  have HX2 := Lib.hid b2
  have HX3 := Lib.hid b3
  obtain ⟨c0, c1, c2, c3, l1⟩ := b1.four
  obtain ⟨d0, d1, d2, d3, l2⟩ := b2.four
  have l3 := b3.four.2.2.2.2
  clear b1 b2 b3 B0
  go_upto_region 2 with (go_at_call 196; (with_reducible refine (CJ.out _).mono ?_); rintro e w1 ⟨rfl, hb1⟩; have HB1 := Lib.hid hb1; have hs1 := hb1.size; clear hb1)
  clear c0 c1 c2 c3 d0 d1 d2 d3
  have HC1 : Hid (Below W.heap.size W w1) := acc HB0.out HB1.out
  have b1 := HX1.out.below HB1.out
  have b2 := HX2.out.below HB1.out
  have b3 := HX3.out.below HB1.out
  obtain ⟨e0, e1, e2, e3, _⟩ := b3.four
  have g0 := b3.free 0
  have g1 := b3.free 1
  have g2 := b3.free 2
  have g3 := b3.free 3
  have hl := HC1.out.size
  clear b1 b2 b3
  have HX3b := Lib.hid (HX3.out.below HB1.out)
  go_wp2
  refine bodyPost_ret (v := .tuple #[.agg o0, .bool false]) ?_ rfl ⟨rfl, ?_⟩
  ·obtain ⟨s0, s1, s2, s3, _⟩ := ((HX3b.out.put4 (.int .u64 0) (.int .u64 0) (.int .i64 0) (.int .i64 0)).old (.cells z2 25)).four
   simp [results, Tryz.results175, go_sem, s0, s1, s2, s3]
  ·repeat (first | with_reducible exact HC1.out | with_reducible refine yan ?_ (by omega) _ _ | with_reducible refine Below.alloc ?_ (by first | omega | (simp only [yft]; omega)) _)
 ·simp only [yh5] at CJ
  simp only [Bool.true_and]
  cases k
  ·simp only [Bool.false_eq_true, if_false]
   go_enter Tryz.func175, Tryz.ntmps175
   go_upto_region 1 with fail
   obtain ⟨w0, hw0⟩ : ∃ w0, ((W.alloc (.cells (oC nd p) 152)).alloc (.cells (oC nd q) 152)).alloc (.cells o0 152) = w0 := ⟨_, rfl⟩
   rw [hw0] at B0 b1 b2 b3 ⊢
   clear hw0
   have HB0 := Lib.hid B0
   have HX1 := Lib.hid b1
   have HX2 := Lib.hid b2
   have HX3 := Lib.hid b3
   obtain ⟨c0, c1, c2, c3, l1⟩ := b1.four
   obtain ⟨d0, d1, d2, d3, l2⟩ := b2.four
   have l3 := b3.four.2.2.2.2
   clear b1 b2 b3 B0
   go_upto_region 2 with (go_at_call 196; (with_reducible refine (CJ.out _).mono ?_); rintro e w1 ⟨rfl, hb1⟩; have HB1 := Lib.hid hb1; have hs1 := hb1.size; clear hb1)
   clear c0 c1 c2 c3 d0 d1 d2 d3
   have HC1 : Hid (Below W.heap.size W w1) := acc HB0.out HB1.out
   have b1 := HX1.out.below HB1.out
   have b2 := HX2.out.below HB1.out
   have b3 := HX3.out.below HB1.out
   have hl := HC1.out.size
   have HY1 := Lib.hid (b1.old (.cells (a2 p.f q.t) 25))
   have HY2 := Lib.hid (b2.old (.cells (a2 p.f q.t) 25))
   have HY3 := Lib.hid (b3.old (.cells (a2 p.f q.t) 25))
   have HY4 := Lib.hid (Bx.new w1 (a2 p.f q.t) 25)
   have HC2 : Hid (Below W.heap.size W (w1.alloc (.cells (a2 p.f q.t) 25))) := HC1.out.alloc (by omega) _
   clear b1 b2 b3
   obtain ⟨w2, hw2⟩ : ∃ w2, (w1.alloc (.cells (a2 p.f q.t) 25)) = w2 := ⟨_, rfl⟩
   rw [hw2] at HY1 HY2 HY3 HY4 HC2
   rw [hw2]
   clear hw2
   obtain ⟨z, hz⟩ : ∃ z, w1.heap.size = z := ⟨_, rfl⟩
   rw [hz] at HY4 ⊢
   have hz2 : W.heap.size + 3 ≤ z := by omega
   obtain ⟨c0, c1, c2, c3, l1⟩ := HY1.out.four
   obtain ⟨d0, d1, d2, d3, l2⟩ := HY2.out.four
   go_upto_region 3 with (go_at_call 124; (with_reducible refine (CM.out _).mono ?_); rintro e w3 ⟨rfl, hb3⟩; have HB3 := Lib.hid hb3; have hs3 := hb3.size; clear hb3)
   have HC3 : Hid (Below W.heap.size W w3) := acc HC2.out HB3.out
   have HY5 := Lib.hid (HY3.out.below HB3.out)
   obtain ⟨e0, e1, e2, e3, _⟩ := HY5.out.four
   have g0 := HY5.out.free 0
   have g1 := HY5.out.free 1
   have g2 := HY5.out.free 2
   have g3 := HY5.out.free 3
   go_wp2
   refine bodyPost_ret (v := .tuple #[.agg o0, .bool false]) ?_ rfl ⟨rfl, ?_⟩
   ·obtain ⟨s0, s1, s2, s3, _⟩ := (HY5.out.put4 (.int .u64 0) (.int .u64 0) (.int .i64 0) (.int .i64 0)).four
    simp [results, Tryz.results175, go_sem, s0, s1, s2, s3]
   ·repeat (first | with_reducible exact HC3.out | with_reducible refine yan ?_ (by omega) _ _ | with_reducible refine Below.alloc ?_ (by first | omega | (simp only [yft]; omega)) _)
  ·simp only [if_true]
   go_enter Tryz.func175, Tryz.ntmps175
   go_upto_region 1 with fail
   obtain ⟨w0, hw0⟩ : ∃ w0, ((W.alloc (.cells (oC nd p) 152)).alloc (.cells (oC nd q) 152)).alloc (.cells o0 152) = w0 := ⟨_, rfl⟩
   rw [hw0] at B0 b1 b2 b3 ⊢
   clear hw0
   have HB0 := Lib.hid B0
   have HX1 := Lib.hid b1
   have HX2 := Lib.hid b2
   have HX3 := Lib.hid b3
   obtain ⟨c0, c1, c2, c3, l1⟩ := b1.four
   obtain ⟨d0, d1, d2, d3, l2⟩ := b2.four
   have l3 := b3.four.2.2.2.2
   clear b1 b2 b3 B0
   go_upto_region 2 with (go_at_call 196; (with_reducible refine (CJ.out _).mono ?_); rintro e w1 ⟨rfl, hb1⟩; have HB1 := Lib.hid hb1; have hs1 := hb1.size; clear hb1)
   clear c0 c1 c2 c3 d0 d1 d2 d3
   have HC1 : Hid (Below W.heap.size W w1) := acc HB0.out HB1.out
   have b1 := HX1.out.below HB1.out
   have b2 := HX2.out.below HB1.out
   have b3 := HX3.out.below HB1.out
   have hl := HC1.out.size
   have HY1 := Lib.hid (b1.old (.cells (a2 p.f q.t) 25))
   have HY2 := Lib.hid (b2.old (.cells (a2 p.f q.t) 25))
   have HY3 := Lib.hid (b3.old (.cells (a2 p.f q.t) 25))
   have HY4 := Lib.hid (Bx.new w1 (a2 p.f q.t) 25)
   have HC2 : Hid (Below W.heap.size W (w1.alloc (.cells (a2 p.f q.t) 25))) := HC1.out.alloc (by omega) _
   clear b1 b2 b3
   obtain ⟨w2, hw2⟩ : ∃ w2, (w1.alloc (.cells (a2 p.f q.t) 25)) = w2 := ⟨_, rfl⟩
   rw [hw2] at HY1 HY2 HY3 HY4 HC2
   rw [hw2]
   clear hw2
   obtain ⟨z, hz⟩ : ∃ z, w1.heap.size = z := ⟨_, rfl⟩
   rw [hz] at HY4 ⊢
   have hz2 : W.heap.size + 3 ≤ z := by omega
   obtain ⟨c0, c1, c2, c3, l1⟩ := HY1.out.four
   obtain ⟨d0, d1, d2, d3, l2⟩ := HY2.out.four
   go_upto_region 4 with (go_at_call 124; (with_reducible refine (CM.out _).mono ?_); rintro e w3 ⟨rfl, hb3⟩; have HB3 := Lib.hid hb3; have hs3 := hb3.size; clear hb3)
   clear c0 c1 c2 c3 d0 d1 d2 d3
   have HC3 : Hid (Below W.heap.size W w3) := acc HC2.out HB3.out
   have HV1 := Lib.hid (HY1.out.below HB3.out)
   have HV3 := Lib.hid (HY3.out.below HB3.out)
   have HV4 := Lib.hid (HY4.out.below HB3.out)
   obtain ⟨c0, c1, c2, c3, _⟩ := HV1.out.four
   obtain ⟨d0, d1, d2, d3, _⟩ := (HY2.out.below HB3.out).four
   have f3 := HV1.out.free 3
   have hmx := HMX.out
   have l4 := HY4.out.two.2.2
   go_upto_region 5 with fail
   clear c0 c1 c2 c3 d0 d1 d2 d3 f3 hmx
   have HU1 := Lib.hid (yb6 HV1.out 3 (.int .i64 m))
   have HU3 := Lib.hid (HV3.out.other 3 (.int .i64 m) (k := W.heap.size) (by omega))
   have HU4 := Lib.hid (HV4.out.other 3 (.int .i64 m) (k := W.heap.size) (by omega))
   have HC4 : Hid (Below W.heap.size W (w3.setCell ⟨W.heap.size, 3, none⟩ (.int .i64 m))) := yan HC3.out (Nat.le_refl _) _ _
   obtain ⟨w4, hw4⟩ : ∃ w4, w3.setCell ⟨W.heap.size, 3, none⟩ (.int .i64 m) = w4 := ⟨_, rfl⟩
   rw [hw4] at HU1 HU3 HU4 HC4 ⊢
   clear hw4
   obtain ⟨c0, c1, c2, c3, _⟩ := Bx.four (a := .int .u64 (p.f : Nat)) (c := .int .u64 (p.t : Nat)) (d := .int .i64 nd) (e := .int .i64 m) HU1.out
   obtain ⟨d0, d1, _⟩ := HU4.out.two
   go_wp2_with (go_at_call 197; (with_reducible refine (CA.out _).mono ?_); rintro e w5 ⟨rfl, hb5⟩; have HB5 := Lib.hid hb5; have HU5 := Lib.hid (HU3.out.below hb5); have HC5 : Hid (Below W.heap.size W w5) := (acc HC4.out hb5); obtain ⟨e0, e1, e2, e3, _⟩ := HU5.out.four; have g0 := HU5.out.free 0; have g1 := HU5.out.free 1; have g2 := HU5.out.free 2; have g3 := HU5.out.free 3; clear hb5)
   refine bodyPost_ret (v := .tuple #[.agg (oC nd ⟨p.f, q.t, p.n, m⟩), .bool true]) ?_ rfl ⟨rfl, ?_⟩
   ·obtain ⟨s0, s1, s2, s3, _⟩ := (HU5.out.put4 (.int .u64 (p.f : Nat)) (.int .u64 (q.t : Nat)) (.int .i64 nd) (.int .i64 m)).four
    simp [results, Tryz.results175, go_sem, s0, s1, s2, s3]
   ·repeat (first | with_reducible exact HC5.out | with_reducible refine yan ?_ (by omega) _ _ | with_reducible refine Below.alloc ?_ (by first | omega | (simp only [yft]; omega)) _)
end Go.Proofs.YtnjodhglbapnlaaGreat
