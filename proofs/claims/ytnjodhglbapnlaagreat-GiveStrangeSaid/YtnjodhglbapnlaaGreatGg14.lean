import Derived.Test.YtnjodhglbapnlaaGreatGg02
import Derived.Test.YtnjodhglbapnlaaGreatGg03
set_option maxRecDepth 100000
set_option maxHeartbeats 16000000
namespace Go.Proofs.YtnjodhglbapnlaaGreat
open Go.RowKit
theorem ydk : ∃ i, Tryz.prog.info? 96 = some i ∧ i.zero = some (.agg #[.string ⟨#[]⟩, .string ⟨#[]⟩]) ∧ i.size = 2 ∧ i.bytes = 32 := by
 have h : (Tryz.prog.info? 96).map (fun i => (i.zero, i.size, i.bytes)) = some (some (.agg #[.string ⟨#[]⟩, .string ⟨#[]⟩]), 2, 32) := by kernel_rfl
 obtain ⟨i, hi, hx⟩ := Option.map_eq_some_iff.1 h
 simp only [Prod.mk.injEq] at hx
 exact ⟨i, hi, hx⟩
theorem yih : (Tryz.prog.info? 96).map (·.size) = some 2 := by kernel_rfl
theorem yu6 : ∀ w, (zeroValue 96).run Tryz.prog w = .ok (.agg #[.string ⟨#[]⟩, .string ⟨#[]⟩]) w := fun _ => by kernel_rfl
theorem ynp {W : World} {base g n c : Nat} {xs : List Value} (h : W.ownsRow base 96 2 (.slice (some ⟨g, 0, none⟩) n c) n xs) (ty : TypeId) (k d : Nat) (hk : n + k ≤ c) (h0 : 0 < k) :
  ∃ w', (Builtin.clear_ #[22] ty #[.slice (some ⟨g, n * 2, none⟩) k d]).run Tryz.prog W = .ok (.tuple #[]) w' ∧ w'.ownsRow base 96 2 (.slice (some ⟨g, 0, none⟩) n c) n xs ∧ W.grownBy w' (some g) := by
 obtain ⟨cur, hg, hnc, hcm, hcs, ht, hb⟩ := yd3 h
 have hz : (Value.cells (.agg #[.string ⟨#[]⟩, .string ⟨#[]⟩])).size = 2 := rfl
 have hone : ∀ u ∈ (Value.cells (.agg #[.string ⟨#[]⟩, .string ⟨#[]⟩])), u.oneCell' = true := by
  intro u hu
  simp [Value.cells] at hu
  subst hu
  rfl
 have hr := yly W 22 96 ty (.agg #[.string ⟨#[]⟩, .string ⟨#[]⟩]) Tryz.underlying22 yu6 hone g (n * 2) k d cur 96 h0 hg (by rw [hz, hcs, ← Nat.add_mul]; exact Nat.mul_le_mul_right _ hk)
 refine ⟨_, hr, yfj (setRow_heap W g cur _ 96 _ hg) hb hnc hcm ?_ ?_, ydg _ _ _⟩
 ·have e1 : (Builtin.zeroCells (Value.cells (.agg #[.string ⟨#[]⟩, .string ⟨#[]⟩])) k).toList.length = k * 2 := by rw [Array.length_toList, size_zeroCells]; rfl
  have e2 : (n + k) * 2 ≤ c * 2 := Nat.mul_le_mul_right _ hk
  rw [Nat.add_mul] at e2
  simp only [List.size_toArray, List.length_append, List.length_take, List.length_drop, Array.length_toList, e1, hcs]
  omega
 ·have e2 : n * 2 ≤ c * 2 := Nat.mul_le_mul_right _ hnc
  simp only [List.append_assoc]
  rw [List.take_append_of_le_length (by rw [List.length_take, Array.length_toList, hcs]; omega), List.take_take, Nat.min_self, ht]
theorem yu7 (g n c i j base : Nat) (xs : List Value) (W : World) (hown : W.ownsRow base 96 2 (.slice (some ⟨g, 0, none⟩) n c) n xs) (hij : i < j) (hj : j ≤ n) (hn : n ≤ 100000) (h1 : ∀ u ∈ xs, u.oneCell' = true) :
  Calls Tryz.prog 221 #[.slice (some ⟨g, 0, none⟩) n c, .int .i64 (i : Nat), .int .i64 (j : Nat)] W fun e w' => e = .returned (.slice (some ⟨g, 0, none⟩) (i + (n - j)) c) ∧
   w'.ownsRow base 96 2 (.slice (some ⟨g, 0, none⟩) (i + (n - j)) c) (i + (n - j)) (xs.take (i * 2) ++ xs.drop (j * 2)) ∧ W.grownBy w' (some g) := by
 obtain ⟨i0, hi0, hz0, hs0, hb0⟩ := ydk
 obtain ⟨m, hm⟩ : ∃ m, i + (n - j) = m := ⟨_, rfl⟩
 have hc : n ≤ c ∧ c ≤ 9223372036854775807 := by
  obtain ⟨_, _, a, b, _⟩ := yd3 hown
  unfold maxLen at b
  exact ⟨a, by omega⟩
 obtain ⟨hnc, hcm⟩ := hc
 have HO := Lib.hid hown
 have hd : W.drew.ownsRow base 96 2 (.slice (some ⟨g, 0, none⟩) i c) i (xs.take (i * 2)) := ygd hown i (by omega)
 have hl : (xs.drop (j * 2)).length = (n - j) * 2 := by rw [List.length_drop, hown.1, ← Nat.sub_mul]
 have hone : ∀ u ∈ xs.drop (j * 2), u.oneCell' = true := fun u hu => h1 u (List.mem_of_mem_drop hu)
 have hij' : ((i : Int) == (j : Int)) = false := by simp; omega
 have b1 : (i : Int) ≤ (j : Int) := by omega
 have b2 : (j : Int) ≤ (n : Int) := by omega
 have b3 : j ≤ n := hj
 have b4 : i ≤ c := by omega
 have b5 : m < n := by omega
 have b6 : m ≤ c := by omega
 have b7 : ¬ c = m := by omega
 rw [hm]
 by_cases hcj : c = j
 ·have hnil : xs.drop (j * 2) = [] := List.eq_nil_of_length_eq_zero (by rw [hl, show n - j = 0 by omega, Nat.zero_mul])
  obtain ⟨w1, hr, ho, hgr⟩ := run_append_fits (P := Tryz.prog) W.drew base 22 22 96 i0 2 Tryz.underlying22 hi0 hs0 g i c _ hd ⟨g, 0, none⟩ 0 0 (xs.drop (j * 2)) (by rw [hnil]; rfl) (by intro k u hk; rw [hnil] at hk; cases hk) hone (by omega)
  have e0 : i + 0 = m := by omega
  rw [e0] at hr ho
  obtain ⟨w2, hr2, ho2, hgr2⟩ := ynp ho 22 (n - m) (c - m) (by omega) (by omega)
  have HG : Hid (W.grownBy w2 (some g)) := yck (yck (yfk (yen _ _)) hgr) hgr2
  have HO2 := Lib.hid ho2
  have HR := Lib.hid hr
  have HR2 := Lib.hid hr2
  clear hr hr2 ho ho2 hgr hgr2 hd hl hone h1 hown e0 hm
  subst hcj
  go_enter Tryz.func221, Tryz.ntmps221
  go_wp2
  go_region_law (refine yd5 rfl _ _ 22 22 rfl (.slice (some ⟨g, 0, none⟩) i c) (.slice (some ⟨g, 0, none⟩) 0 0) (by simp [Act.eval, Act.put]) (by simp [Act.eval, Act.put]) HR.out ?_)
  all_goals
   go_wp2_with (refine yhw _ rfl _ 22 rfl (.slice (some ⟨g, m * 2, none⟩) (n - m) (c - m)) (by simp [Act.eval]) HR2.out ?_)
   go_ret
   exact ⟨rfl, HO2.out, HG.out⟩
 ·obtain ⟨w1, hr, ho, hgr⟩ := run_append_fits (P := Tryz.prog) W.drew base 22 22 96 i0 2 Tryz.underlying22 hi0 hs0 g i c _ hd ⟨g, j * 2, none⟩ (n - j) (c - j) (xs.drop (j * 2)) hl (by
   intro k u hk
   have hlt : k < (xs.drop (j * 2)).length := (List.getElem?_eq_some_iff.1 hk).1
   have hjn : j * 2 ≤ n * 2 := Nat.mul_le_mul_right _ hj
   rw [hl, Nat.sub_mul] at hlt
   have hx : W.drew.cell? ⟨g, j * 2 + k, none⟩ = xs[j * 2 + k]? := hown.cellAt (j * 2 + k) (by omega)
   rw [Go.WideShapes.add_plain, hx, ← hk, List.getElem?_drop]) hone (by omega)
  rw [hm] at hr ho
  obtain ⟨w2, hr2, ho2, hgr2⟩ := ynp ho 22 (n - m) (c - m) (by omega) (by omega)
  have HG : Hid (W.grownBy w2 (some g)) := yck (yck (yfk (yen _ _)) hgr) hgr2
  have HO2 := Lib.hid ho2
  have HR := Lib.hid hr
  have HR2 := Lib.hid hr2
  clear hr hr2 ho ho2 hgr hgr2 hd hl hone h1 hown hm
  go_enter Tryz.func221, Tryz.ntmps221
  go_wp2
  go_region_law (refine yd5 rfl _ _ 22 22 rfl (.slice (some ⟨g, 0, none⟩) i c) (.slice (some ⟨g, j * 2, none⟩) (n - j) (c - j)) (by simp [Act.eval, Act.put]) (by simp [Act.eval, Act.put]) HR.out ?_)
  all_goals
   go_wp2_with (refine yhw _ rfl _ 22 rfl (.slice (some ⟨g, m * 2, none⟩) (n - m) (c - m)) (by simp [Act.eval]) HR2.out ?_)
   go_ret
   exact ⟨rfl, HO2.out, HG.out⟩
def yey (W : World) (base : Nat) (v : Value) (n i : Nat) (xs us : List Value) (e : Ending) (w' : World) : Prop :=
 ∃ v', e = .returned v' ∧ w'.ownsRow base 96 2 v' (n + 1) (xs.take (i * 2) ++ (us ++ xs.drop (i * 2))) ∧ W.grownBy w' v.ownBlock ∧ yax W v v'
theorem yu8 (base vb : Nat) (us : List Value) (W : World) (hb : base ≤ W.heap.size) (hl : us.length = 2) (hvb : W.heap[vb]? = some (.cells us.toArray 96 (0, 0))) (h1 : ∀ u ∈ us, u.oneCell' = true) :
  Calls Tryz.prog 219 #[.slice none 0 0, .int .i64 0, .slice (some ⟨vb, 0, none⟩) 1 1] W (yey W base (.slice none 0 0) 0 0 [] us) := by
 obtain ⟨i0, hi0, hz0, hs0, hb0⟩ := ydk
 have hsrc : ∀ j u, us[j]? = some u → W.cell? ((⟨vb, 0, none⟩ : Addr).add j) = some u := fun j u hj => by
  rw [Go.WideShapes.add_plain, Nat.zero_add, cell_of_row W vb j us.toArray 96 (0, 0) hvb]; simpa using hj
 have HS := Lib.hid hsrc
 have HB := Lib.hid hb
 have HL : Hid (us.length = 1 * 2) := by show us.length = 1 * 2; rw [hl]
 clear hsrc hb hvb hl
 go_enter Tryz.func219, Tryz.ntmps219
 go_wp2_with (at_builtin; go_must (refine yhu rfl (.tmp 23) (.tmp 24) 22 rfl base 96 i0 (.agg #[.string ⟨#[]⟩, .string ⟨#[]⟩]) 2 32 Tryz.underlying22 hi0 hz0 hs0 hb0 rfl (by decide) (.slice none 0 0) 0 [] rfl (World.ownsRow_nil _ _ _ _) ⟨vb, 0, none⟩ 1 1 us rfl HL.out HS.out h1 (by unfold maxLen; omega) (by omega) HB.out ?_); intro v' w1 hown1 hg1 _ _ hsn; have HO := Lib.hid hown1; have HG := Lib.hid hg1; have HN := Lib.hid hsn; clear hown1 hg1 hsn)
 go_ret
 exact ⟨_, rfl, by simpa using HO.out, HG.out, HN.out⟩
theorem yu9 (base vb g n c : Nat) (xs us : List Value) (W : World) (hown : W.ownsRow base 96 2 (.slice (some ⟨g, 0, none⟩) n c) n xs) (hn : n ≤ 100000) (hb : base ≤ W.heap.size) (hl : us.length = 2)
  (hvb : W.heap[vb]? = some (.cells us.toArray 96 (0, 0))) (h1 : ∀ u ∈ us, u.oneCell' = true) :
  Calls Tryz.prog 219 #[.slice (some ⟨g, 0, none⟩) n c, .int .i64 (n : Nat), .slice (some ⟨vb, 0, none⟩) 1 1] W (yey W base (.slice (some ⟨g, 0, none⟩) n c) n n xs us) := by
 obtain ⟨i0, hi0, hz0, hs0, hb0⟩ := ydk
 have hsrc : ∀ j u, us[j]? = some u → W.cell? ((⟨vb, 0, none⟩ : Addr).add j) = some u := fun j u hj => by
  rw [Go.WideShapes.add_plain, Nat.zero_add, cell_of_row W vb j us.toArray 96 (0, 0) hvb]; simpa using hj
 have hnc : n ≤ c := by
  obtain ⟨_, _, a, _⟩ := yd3 hown
  exact a
 have HX := Lib.hid hown.1
 have HO0 := Lib.hid hown
 have HS := Lib.hid hsrc
 have HB := Lib.hid hb
 have HL : Hid (us.length = 1 * 2) := by show us.length = 1 * 2; rw [hl]
 clear hsrc hb hvb hl hown
 go_enter Tryz.func219, Tryz.ntmps219
 go_wp2_with (at_builtin; go_must (refine yhu rfl (.tmp 23) (.tmp 24) 22 rfl base 96 i0 (.agg #[.string ⟨#[]⟩, .string ⟨#[]⟩]) 2 32 Tryz.underlying22 hi0 hz0 hs0 hb0 rfl (by decide) (.slice (some ⟨g, 0, none⟩) n c) n xs rfl HO0.out ⟨vb, 0, none⟩ 1 1 us rfl HL.out HS.out h1 (by unfold maxLen; omega) (by omega) HB.out ?_); intro v' w1 hown1 hg1 _ _ hsn; have HO := Lib.hid hown1; have HG := Lib.hid hg1; have HN := Lib.hid hsn; clear hown1 hg1 hsn)
 all_goals
  go_ret
  exact ⟨_, rfl, by rw [List.take_of_length_le (by rw [HX.out]; exact Nat.le_refl _), List.drop_of_length_le (by rw [HX.out]; exact Nat.le_refl _), List.append_nil]; exact HO.out, HG.out, HN.out⟩
theorem yva (base vb g n c i : Nat) (xs us : List Value) (W : World) (hown : W.ownsRow base 96 2 (.slice (some ⟨g, 0, none⟩) n c) n xs) (hi : i < n) (hn : n ≤ 100000) (hroom : n + 1 ≤ c) (hne : vb ≠ g) (hl : us.length = 2)
  (hvb : W.heap[vb]? = some (.cells us.toArray 96 (0, 0))) (h1 : ∀ u ∈ us, u.oneCell' = true) (h2 : ∀ u ∈ xs, u.oneCell' = true) :
  Calls Tryz.prog 219 #[.slice (some ⟨g, 0, none⟩) n c, .int .i64 (i : Nat), .slice (some ⟨vb, 0, none⟩) 1 1] W (yey W base (.slice (some ⟨g, 0, none⟩) n c) n i xs us) := by
 obtain ⟨cur, hg, hnc, hcm, hcs, ht, hbg⟩ := yd3 hown
 have hcm' : c ≤ 9223372036854775807 := by unfold maxLen at hcm; omega
 have e1 : i * 2 + us.length = (i + 1) * 2 := by rw [hl, Nat.add_mul, Nat.one_mul]
 have e2 : (xs.drop (i * 2)).length = (n - i) * 2 := by rw [List.length_drop, hown.1, ← Nat.sub_mul]
 have e3 : (i + 1) * 2 + (xs.drop (i * 2)).length = (n + 1) * 2 := by rw [e2, ← Nat.add_mul]; congr 1; omega
 have e4 : (n + 1) * 2 ≤ c * 2 := Nat.mul_le_mul_right _ hroom
 have e5 : (i + 1) * 2 + (xs.drop (i * 2)).length ≤ cur.toList.length := by rw [e3, Array.length_toList, hcs]; exact e4
 have hin : i * 2 ≤ n * 2 := Nat.mul_le_mul_right _ (by omega)
 have hmin1 : Nat.min (n + 1 - i) (n + 1 - (i + 1)) = n - i := by simp only [Nat.min_def]; split <;> omega
 have hmin2 : Nat.min 1 (n + 1 - i) = 1 := by simp only [Nat.min_def]; split <;> omega
 have hov : ∀ lb cb, (callFunc 230 #[.slice (some ⟨vb, 0, none⟩) 1 1, .slice (some ⟨g, (i + 1) * 2, none⟩) lb cb]).run Tryz.prog W = .ok (.value (.bool false)) W := fun lb cb => by
  rw [run_callFunc_extern Tryz.func230 (by kernel_rfl) (by kernel_rfl) (by kernel_rfl) (e := Extern.SlicesOverlaps.overlaps #[22, 22] #[4]) (by kernel_rfl),
   Lib.run_overlaps_apart W 22 4 96 Tryz.underlying22 2 (fun _ => by kernel_rfl) ⟨vb, 0, none⟩ ⟨g, (i + 1) * 2, none⟩ 1 1 lb cb hne 96 96 us.toArray.size cur.size (by simp [World.shape?, hvb]) (by simp [World.shape?, hg]) (by rw [hcs]; omega) (by simp [World.frozen?, hvb]) (by simp [World.frozen?, hvb])]
  rfl
 obtain ⟨W1, hW1⟩ : ∃ W1, W1 = W.drew.setRow g (lay cur.toList ((i + 1) * 2) (xs.drop (i * 2))).toArray := ⟨_, rfl⟩
 have hcp1 : ∀ ty dc sc, (Builtin.copy_ #[22, 22] ty #[.slice (some ⟨g, (i + 1) * 2, none⟩) (n + 1 - (i + 1)) dc, .slice (some ⟨g, i * 2, none⟩) (n + 1 - i) sc]).run Tryz.prog W.drew = .ok (goInt (n - i : Nat)) W1 := fun ty dc sc => by
  have h := yd4 (P := Tryz.prog) W.drew 22 22 ty 96 2 g ((i + 1) * 2) (n + 1 - (i + 1)) dc ⟨g, i * 2, none⟩ (n + 1 - i) sc cur 96 (xs.drop (i * 2)) Tryz.underlying22 yih hg (by rw [hmin1]; exact e2) (fun k u hk => by
   have hlt : k < (xs.drop (i * 2)).length := (List.getElem?_eq_some_iff.1 hk).1
   rw [e2, Nat.sub_mul] at hlt
   have hx : W.drew.cell? ⟨g, i * 2 + k, none⟩ = xs[i * 2 + k]? := hown.cellAt (i * 2 + k) (by omega)
   rw [Go.WideShapes.add_plain, hx, ← hk, List.getElem?_drop]) (by simpa using e5) (fun u hu => h2 u (List.mem_of_mem_drop hu))
  rw [hmin1] at h
  rw [h, hW1]; rfl
 have hg1 : W1.heap[g]? = some (.cells (lay cur.toList ((i + 1) * 2) (xs.drop (i * 2))).toArray 96 (0, 0)) := by rw [hW1]; exact setRow_heap W.drew g cur _ 96 _ hg
 have hvb1 : W1.heap[vb]? = some (.cells us.toArray 96 (0, 0)) := by rw [hW1, setRow_other W.drew g vb _ hne]; exact hvb
 have hL1 : (lay cur.toList ((i + 1) * 2) (xs.drop (i * 2))).length = c * 2 := by rw [yd6 _ _ _ e5, Array.length_toList, hcs]
 obtain ⟨W2, hW2⟩ : ∃ W2, W2 = W1.setRow g (lay (lay cur.toList ((i + 1) * 2) (xs.drop (i * 2))) (i * 2) us).toArray := ⟨_, rfl⟩
 have hcp2 : ∀ ty dc, (Builtin.copy_ #[22, 22] ty #[.slice (some ⟨g, i * 2, none⟩) (n + 1 - i) dc, .slice (some ⟨vb, 0, none⟩) 1 1]).run Tryz.prog W1 = .ok (goInt 1) W2 := fun ty dc => by
  have h := yd4 (P := Tryz.prog) W1 22 22 ty 96 2 g (i * 2) (n + 1 - i) dc ⟨vb, 0, none⟩ 1 1 _ 96 us Tryz.underlying22 yih hg1 (by rw [hmin2, hl]) (fun k u hk => by
   rw [Go.WideShapes.add_plain, Nat.zero_add, cell_of_row W1 vb k us.toArray 96 (0, 0) hvb1]; simpa using hk) (by rw [List.size_toArray, hL1, e1]; omega) h1
  rw [hmin2] at h
  rw [h, hW2]; rfl
 have hfin : yey W base (.slice (some ⟨g, 0, none⟩) n c) n i xs us (.returned (.slice (some ⟨g, 0, none⟩) (n + 1) c)) W2 := by
  refine ⟨_, rfl, yfj (cur := (lay (lay cur.toList ((i + 1) * 2) (xs.drop (i * 2))) (i * 2) us).toArray) ?_ hbg hroom hcm ?_ ?_, ?_, fun q hq => .inl hq⟩
  ·rw [hW2]; exact setRow_heap W1 g _ _ 96 _ hg1
  ·rw [List.size_toArray, yd6 _ _ _ (by rw [hL1, e1]; omega), hL1]
  ·rw [ylz _ _ _ _ _ e1.symm e5]
   have e6 : cur.toList.take (i * 2) = xs.take (i * 2) := by rw [← ht, List.take_take, Nat.min_eq_left hin]
   rw [e6, ← List.append_assoc, ← List.append_assoc, List.take_left' (by simp only [List.length_append, List.length_take, hown.1, Nat.min_eq_left hin, e1, e3]), List.append_assoc]
  ·rw [hW2]
   exact yck (by rw [hW1]; exact yck (yfk (yen _ _)) (ydg _ _ _)) (ydg _ _ _)
 have HF := Lib.hid hfin
 have HC1 := Lib.hid hcp1
 have HC2 := Lib.hid hcp2
 have hin' : ((i : Int) == (n : Int)) = false := by simp; omega
 have b1 : (i : Int) ≤ (n : Int) := by omega
 have b2 : i ≤ c := by omega
 have b3 : ¬ c = i := by omega
 have b4 : ¬ c = i + 1 := by omega
 have hw1 : IntKind.i64.wrap ((i : Int) + 1) = (i : Int) + 1 := by rw [IntKind.wrap_i64]; omega
 have hw0 : (0 : Int) ≤ (i : Int) + 1 := by omega
 have hwn : ((i : Int) + 1).toNat = i + 1 := by omega
 have b5 : (i : Int) ≤ (n : Int) + 1 := by omega
 clear hfin hcp1 hcp2 hg1 hvb1 hL1 hW1 hW2 hmin1 hmin2 e1 e2 e3 e4 e5 hin hown hg ht hcs hcm hbg hvb hl h1 h2
 go_enter Tryz.func219, Tryz.ntmps219
 go_wp2_with (simp only [hov])
 go_region_law (refine yhv rfl _ _ 22 22 rfl (.slice (some ⟨g, (i + 1) * 2, none⟩) (n + 1 - (i + 1)) (c - (i + 1))) (.slice (some ⟨g, i * 2, none⟩) (n + 1 - i) (c - i)) (by simp [Act.eval, Act.put]) (by simp [Act.eval, Act.put]) (HC1.out _ _ _) ?_)
 all_goals
  go_wp2_with (refine wpList_copy_run _ rfl _ _ 22 22 rfl (.slice (some ⟨g, i * 2, none⟩) (n + 1 - i) (c - i)) (.slice (some ⟨vb, 0, none⟩) 1 1) (by simp [Act.eval]) (by simp [Act.eval]) (HC2.out _ _) ?_)
  go_ret
  exact HF.out
theorem yvb (base vb g n i : Nat) (xs us : List Value) (W : World) (hown : W.ownsRow base 96 2 (.slice (some ⟨g, 0, none⟩) n n) n xs) (hi : i < n) (hn : n ≤ 100000) (hb : base ≤ W.heap.size) (hl : us.length = 2)
  (hvb : W.heap[vb]? = some (.cells us.toArray 96 (0, 0))) (h1 : ∀ u ∈ us, u.oneCell' = true) (h2 : ∀ u ∈ xs, u.oneCell' = true) :
  Calls Tryz.prog 219 #[.slice (some ⟨g, 0, none⟩) n n, .int .i64 (i : Nat), .slice (some ⟨vb, 0, none⟩) 1 1] W (yey W base (.slice (some ⟨g, 0, none⟩) n n) n i xs us) := by
 obtain ⟨i0, hi0, hz0, hs0, hb0⟩ := ydk
 have hgw : g < W.heap.size := (hown.lt g rfl).2
 have hvw : vb < W.heap.size := (Array.getElem?_eq_some_iff.1 hvb).1
 have e1 : i * 2 + us.length = (i + 1) * 2 := by rw [hl, Nat.add_mul, Nat.one_mul]
 have e2 : (xs.drop (i * 2)).length = (n - i) * 2 := by rw [List.length_drop, hown.1, ← Nat.sub_mul]
 have e3 : (i + 1) * 2 + (xs.drop (i * 2)).length = (n + 1) * 2 := by rw [e2, ← Nat.add_mul]; congr 1; omega
 have hin : i * 2 ≤ n * 2 := Nat.mul_le_mul_right _ (by omega)
 have eT : (xs.take (i * 2)).length = i * 2 := by rw [List.length_take, hown.1]; omega
 have hmin1 : Nat.min (n - i) (n + 1 - (i + 1)) = n - i := by simp only [Nat.min_def]; split <;> omega
 have hmin2 : Nat.min 1 (n + 1 - i) = 1 := by simp only [Nat.min_def]; split <;> omega
 have hold : (Builtin.firstCells i0.size i (.slice (some ⟨g, 0, none⟩) i n)).run Tryz.prog W.drew = .ok (xs.take (i * 2)).toArray W.drew := by
  rw [hs0]
  exact run_firstCells_some (P := Tryz.prog) W.drew 2 i ⟨g, 0, none⟩ i n (xs.take (i * 2)) eT ((ygd hown i (by omega)).cells (g := g) rfl)
 have hik : i + (n + 1 - i) = n + 1 := by omega
 have hrz := Lib.run_append_grow_zeros (P := Tryz.prog) W 22 3 22 96 i0 (.agg #[.string ⟨#[]⟩, .string ⟨#[]⟩]) .i64 .i64 Tryz.underlying22 Tryz.underlying3 hi0 hz0 (some ⟨g, 0, none⟩) i n (xs.take (i * 2)) hold (n + 1 - i) (by omega) (by omega) (by omega) (by omega) (by rw [hb0]; omega) (by rw [hb0, hik]; exact growslice_fits (by omega) (by omega))
 rw [hik] at hrz
 obtain ⟨G, hG⟩ : ∃ G, G = grownCap W (n + 1) n 96 := ⟨_, rfl⟩
 have hGn : n + 1 ≤ G := by rw [hG]; exact grownCap_ge W _ _ _
 have hG63 : G ≤ maxLen := by rw [hG]; exact grownCap_le_maxLen W (n + 1) n 96 (by unfold maxLen; omega)
 rw [← hG] at hrz
 obtain ⟨ROW, hROW⟩ : ∃ ROW : Array Value, ROW = (xs.take (i * 2)).toArray ++ Builtin.zeroCells (Value.cells (.agg #[.string ⟨#[]⟩, .string ⟨#[]⟩])) (n + 1 - i) ++ Builtin.zeroCells (Value.cells (.agg #[.string ⟨#[]⟩, .string ⟨#[]⟩])) (G - (n + 1)) := ⟨_, rfl⟩
 rw [← hROW] at hrz
 have hzs : (Value.cells (.agg #[.string ⟨#[]⟩, .string ⟨#[]⟩])).size = 2 := rfl
 have hRl : ROW.size = G * 2 := by
  rw [hROW, Array.size_append, Array.size_append, size_zeroCells, size_zeroCells, List.size_toArray, eT, hzs, ← Nat.add_mul, ← Nat.add_mul]
  congr 1; omega
 have hRt : ROW.toList.take (i * 2) = xs.take (i * 2) := by
  rw [hROW, Array.append_assoc, Array.toList_append, List.take_append_of_le_length (by simp only [eT, Nat.le_refl]), List.take_of_length_le (by simp only [eT, Nat.le_refl])]
 have e4 : (n + 1) * 2 ≤ G * 2 := Nat.mul_le_mul_right _ hGn
 have e5 : (i + 1) * 2 + (xs.drop (i * 2)).length ≤ ROW.toList.length := by rw [e3, Array.length_toList, hRl]; exact e4
 obtain ⟨h, hh⟩ : ∃ h, h = W.heap.size := ⟨_, rfl⟩
 obtain ⟨W1, hW1⟩ : ∃ W1, W1 = W.drew.alloc (.cells ROW 96) := ⟨_, rfl⟩
 rw [← hW1, ← hh] at hrz
 have hg1 : W1.heap[h]? = some (.cells ROW 96 (0, 0)) := by rw [hW1, hh]; exact heap_alloc_new W.drew _
 have hvb1 : W1.heap[vb]? = some (.cells us.toArray 96 (0, 0)) := by rw [hW1, Below.heap_alloc W.drew _ vb hvw]; exact hvb
 have hown1 : W1.ownsRow base 96 2 (.slice (some ⟨g, 0, none⟩) n n) n xs := by
  rw [hW1]
  have h0 : W.drew.ownsRow base 96 2 (.slice (some ⟨g, 0, none⟩) n n) n xs := hown
  exact h0.alloc _
 obtain ⟨W2, hW2⟩ : ∃ W2, W2 = W1.setRow h (lay ROW.toList (i * 2) us).toArray := ⟨_, rfl⟩
 have hL0 : i * 2 + us.length ≤ ROW.toList.length := by rw [e1, Array.length_toList, hRl]; omega
 have hcp2 : ∀ ty dc, (Builtin.copy_ #[22, 22] ty #[.slice (some ⟨h, i * 2, none⟩) (n + 1 - i) dc, .slice (some ⟨vb, 0, none⟩) 1 1]).run Tryz.prog W1 = .ok (goInt 1) W2 := fun ty dc => by
  have hq := yd4 (P := Tryz.prog) W1 22 22 ty 96 2 h (i * 2) (n + 1 - i) dc ⟨vb, 0, none⟩ 1 1 _ 96 us Tryz.underlying22 yih hg1 (by rw [hmin2, hl]) (fun k u hk => by
   rw [Go.WideShapes.add_plain, Nat.zero_add, cell_of_row W1 vb k us.toArray 96 (0, 0) hvb1]; simpa using hk) (by simpa using hL0) h1
  rw [hmin2] at hq
  rw [hq, hW2]; rfl
 have hg2 : W2.drew.heap[h]? = some (.cells (lay ROW.toList (i * 2) us).toArray 96 (0, 0)) := by rw [hW2]; exact setRow_heap W1 h _ _ 96 _ hg1
 have hown2 : W2.drew.ownsRow base 96 2 (.slice (some ⟨g, 0, none⟩) n n) n xs := by
  have h0 : W2.ownsRow base 96 2 (.slice (some ⟨g, 0, none⟩) n n) n xs := by
   rw [hW2]
   exact hown1.kept (ydg _ _ _) (.inr (by intro e; have h9 : g = h := Option.some.inj e; omega))
  exact h0
 have hL1 : (lay ROW.toList (i * 2) us).length = G * 2 := by rw [yd6 _ _ _ hL0, Array.length_toList, hRl]
 obtain ⟨W3, hW3⟩ : ∃ W3, W3 = W2.drew.setRow h (lay (lay ROW.toList (i * 2) us) ((i + 1) * 2) (xs.drop (i * 2))).toArray := ⟨_, rfl⟩
 have hcp1 : ∀ ty dc sc, (Builtin.copy_ #[22, 22] ty #[.slice (some ⟨h, (i + 1) * 2, none⟩) (n + 1 - (i + 1)) dc, .slice (some ⟨g, i * 2, none⟩) (n - i) sc]).run Tryz.prog W2.drew = .ok (goInt (n - i : Nat)) W3 := fun ty dc sc => by
  have hq := yd4 (P := Tryz.prog) W2.drew 22 22 ty 96 2 h ((i + 1) * 2) (n + 1 - (i + 1)) dc ⟨g, i * 2, none⟩ (n - i) sc _ 96 (xs.drop (i * 2)) Tryz.underlying22 yih hg2 (by rw [hmin1]; exact e2) (fun k u hk => by
   have hlt : k < (xs.drop (i * 2)).length := (List.getElem?_eq_some_iff.1 hk).1
   rw [e2, Nat.sub_mul] at hlt
   have hx : W2.drew.cell? ⟨g, i * 2 + k, none⟩ = xs[i * 2 + k]? := hown2.cellAt (i * 2 + k) (by omega)
   rw [Go.WideShapes.add_plain, hx, ← hk, List.getElem?_drop]) (by rw [List.size_toArray, hL1, e3]; exact e4) (fun u hu => h2 u (List.mem_of_mem_drop hu))
  rw [hmin1] at hq
  rw [hq, hW3]; rfl
 have hfin : yey W base (.slice (some ⟨g, 0, none⟩) n n) n i xs us (.returned (.slice (some ⟨h, 0, none⟩) (n + 1) G)) W3 := by
  refine ⟨_, rfl, yfj (cur := (lay (lay ROW.toList (i * 2) us) ((i + 1) * 2) (xs.drop (i * 2))).toArray) ?_ (by omega) hGn hG63 ?_ ?_, ?_, fun q hq => .inr ?_⟩
  ·rw [hW3]; exact setRow_heap W2.drew h _ _ 96 _ hg2
  ·rw [List.size_toArray, yd6 _ _ _ (by rw [hL1, e3]; exact e4), hL1]
  ·rw [yl0 _ _ _ _ _ e1.symm e5, hRt, ← List.append_assoc, ← List.append_assoc, List.take_left' (by simp only [List.length_append, eT, e1, e3]), List.append_assoc]
  ·rw [hW3]
   refine ⟨?_, ?_, ?_, ?_, ?_⟩
   ·rw [hW2, hW1]; rfl
   ·rw [hW2, hW1]; rfl
   ·rw [hW2, hW1]; rfl
   ·rw [size_setRow, hW2]; show W.heap.size ≤ (W1.setRow h _).heap.size; rw [size_setRow, hW1]; simp
   ·intro k hk _
    rw [setRow_other W2.drew h k _ (by omega), hW2]
    show (W1.setRow h _).heap[k]? = _
    rw [setRow_other W1 h k _ (by omega), hW1, Below.heap_alloc W.drew _ k hk]; rfl
  ·have h9 : h = q := Option.some.inj hq
   omega
 have HF := Lib.hid hfin
 have HC1 := Lib.hid hcp1
 have HC2 := Lib.hid hcp2
 have HA := Lib.hid hrz
 have hG9 : G ≤ 9223372036854775807 := by unfold maxLen at hG63; omega
 have hin' : ((i : Int) == (n : Int)) = false := by simp; omega
 have hkk : (n : Int) + 1 - (i : Int) = ((n + 1 - i : Nat) : Int) := by omega
 have HK := Lib.hid hkk
 have b1 : (i : Int) ≤ (n : Int) := by omega
 have b2 : i ≤ n := by omega
 have b3 : ¬ n = i := by omega
 have b4 : ¬ G = i + 1 := by omega
 have b6 : ¬ G = i := by omega
 have b7 : (i : Int) ≤ (n : Int) + 1 := by omega
 have hw1 : IntKind.i64.wrap ((i : Int) + 1) = (i : Int) + 1 := by rw [IntKind.wrap_i64]; omega
 have hw0 : (0 : Int) ≤ (i : Int) + 1 := by omega
 have hwn : ((i : Int) + 1).toNat = i + 1 := by omega
 clear hfin hcp1 hcp2 hrz hkk hg1 hg2 hvb1 hL0 hL1 hW1 hW2 hW3 hmin1 hmin2 e1 e2 e3 e4 e5 eT hin hown hown1 hown2 hvb hl h1 h2 hROW hRt hRl hG hG63 hold hgw hvw hb hh hzs hik
 go_enter Tryz.func219, Tryz.ntmps219
 go_wp2_with (first
  | (at_builtin; refine Lib.wpList_append_run _ rfl _ _ 22 3 rfl (.slice (some ⟨g, 0, none⟩) i n) (.int .i64 ((n + 1 - i : Nat) : Int)) (by simp [Act.eval]) (by simp [Act.eval, HK.out]) _ _ HA.out ?_)
  | (refine wpList_copy_run _ rfl _ _ 22 22 rfl (.slice (some ⟨h, i * 2, none⟩) (n + 1 - i) (G - i)) (.slice (some ⟨vb, 0, none⟩) 1 1) (by simp [Act.eval]) (by simp [Act.eval]) (HC2.out _ _) ?_))
 go_region_law (refine yhv rfl _ _ 22 22 rfl (.slice (some ⟨h, (i + 1) * 2, none⟩) (n + 1 - (i + 1)) (G - (i + 1))) (.slice (some ⟨g, i * 2, none⟩) (n - i) (n - i)) (by simp [Act.eval, Act.put]) (by simp [Act.eval, Act.put]) (HC1.out _ _ _) ?_)
 all_goals
  go_wp2
  go_ret
  exact HF.out
theorem yez : ∃ i, Tryz.prog.info? 209 = some i ∧ i.zero = some (.pointer none) ∧ i.size = 1 ∧ i.bytes = 8 := by
 have h : (Tryz.prog.info? 209).map (fun i => (i.zero, i.size, i.bytes)) = some (some (.pointer none), 1, 8) := by kernel_rfl
 obtain ⟨i, hi, hx⟩ := Option.map_eq_some_iff.1 h
 simp only [Prod.mk.injEq] at hx
 exact ⟨i, hi, hx⟩
theorem yii : (Tryz.prog.info? 209).map (·.size) = some 1 := by kernel_rfl
theorem yvc : ∀ w, (zeroValue 209).run Tryz.prog w = .ok (.pointer none) w := fun _ => by kernel_rfl
theorem ynq {W : World} {base g n c : Nat} {xs : List Value} (h : W.ownsRow base 209 1 (.slice (some ⟨g, 0, none⟩) n c) n xs) (ty : TypeId) (k d : Nat) (hk : n + k ≤ c) (h0 : 0 < k) :
  ∃ w', (Builtin.clear_ #[242] ty #[.slice (some ⟨g, n * 1, none⟩) k d]).run Tryz.prog W = .ok (.tuple #[]) w' ∧ w'.ownsRow base 209 1 (.slice (some ⟨g, 0, none⟩) n c) n xs ∧ W.grownBy w' (some g) := by
 obtain ⟨cur, hg, hnc, hcm, hcs, ht, hb⟩ := yd3 h
 have hz : (Value.cells (.pointer none)).size = 1 := rfl
 have hone : ∀ u ∈ (Value.cells (.pointer none)), u.oneCell' = true := by
  intro u hu
  simp [Value.cells] at hu
  subst hu
  rfl
 have hr := yly W 242 209 ty (.pointer none) Tryz.underlying242 yvc hone g (n * 1) k d cur 209 h0 hg (by rw [hz, hcs, ← Nat.add_mul]; exact Nat.mul_le_mul_right _ hk)
 refine ⟨_, hr, yfj (setRow_heap W g cur _ 209 _ hg) hb hnc hcm ?_ ?_, ydg _ _ _⟩
 ·have e1 : (Builtin.zeroCells (Value.cells (.pointer none)) k).toList.length = k * 1 := by rw [Array.length_toList, size_zeroCells]; rfl
  have e2 : (n + k) * 1 ≤ c * 1 := Nat.mul_le_mul_right _ hk
  rw [Nat.add_mul] at e2
  simp only [List.size_toArray, List.length_append, List.length_take, List.length_drop, Array.length_toList, e1, hcs]
  omega
 ·have e2 : n * 1 ≤ c * 1 := Nat.mul_le_mul_right _ hnc
  simp only [List.append_assoc]
  rw [List.take_append_of_le_length (by rw [List.length_take, Array.length_toList, hcs]; omega), List.take_take, Nat.min_self, ht]
theorem yvd (g n c i j base : Nat) (xs : List Value) (W : World) (hown : W.ownsRow base 209 1 (.slice (some ⟨g, 0, none⟩) n c) n xs) (hij : i < j) (hj : j ≤ n) (hn : n ≤ 100000) (h1 : ∀ u ∈ xs, u.oneCell' = true) :
  Calls Tryz.prog 223 #[.slice (some ⟨g, 0, none⟩) n c, .int .i64 (i : Nat), .int .i64 (j : Nat)] W fun e w' => e = .returned (.slice (some ⟨g, 0, none⟩) (i + (n - j)) c) ∧
   w'.ownsRow base 209 1 (.slice (some ⟨g, 0, none⟩) (i + (n - j)) c) (i + (n - j)) (xs.take (i * 1) ++ xs.drop (j * 1)) ∧ W.grownBy w' (some g) := by
 obtain ⟨i0, hi0, hz0, hs0, hb0⟩ := yez
 obtain ⟨m, hm⟩ : ∃ m, i + (n - j) = m := ⟨_, rfl⟩
 have hc : n ≤ c ∧ c ≤ 9223372036854775807 := by
  obtain ⟨_, _, a, b, _⟩ := yd3 hown
  unfold maxLen at b
  exact ⟨a, by omega⟩
 obtain ⟨hnc, hcm⟩ := hc
 have HO := Lib.hid hown
 have hd : W.drew.ownsRow base 209 1 (.slice (some ⟨g, 0, none⟩) i c) i (xs.take (i * 1)) := ygd hown i (by omega)
 have hl : (xs.drop (j * 1)).length = (n - j) * 1 := by rw [List.length_drop, hown.1, ← Nat.sub_mul]
 have hone : ∀ u ∈ xs.drop (j * 1), u.oneCell' = true := fun u hu => h1 u (List.mem_of_mem_drop hu)
 have hij' : ((i : Int) == (j : Int)) = false := by simp; omega
 have b1 : (i : Int) ≤ (j : Int) := by omega
 have b2 : (j : Int) ≤ (n : Int) := by omega
 have b3 : j ≤ n := hj
 have b4 : i ≤ c := by omega
 have b5 : m < n := by omega
 have b6 : m ≤ c := by omega
 have b7 : ¬ c = m := by omega
 rw [hm]
 by_cases hcj : c = j
 ·have hnil : xs.drop (j * 1) = [] := List.eq_nil_of_length_eq_zero (by rw [hl, show n - j = 0 by omega, Nat.zero_mul])
  obtain ⟨w1, hr, ho, hgr⟩ := run_append_fits (P := Tryz.prog) W.drew base 242 242 209 i0 1 Tryz.underlying242 hi0 hs0 g i c _ hd ⟨g, 0, none⟩ 0 0 (xs.drop (j * 1)) (by rw [hnil]; rfl) (by intro k u hk; rw [hnil] at hk; cases hk) hone (by omega)
  have e0 : i + 0 = m := by omega
  rw [e0] at hr ho
  obtain ⟨w2, hr2, ho2, hgr2⟩ := ynq ho 242 (n - m) (c - m) (by omega) (by omega)
  have HG : Hid (W.grownBy w2 (some g)) := yck (yck (yfk (yen _ _)) hgr) hgr2
  have HO2 := Lib.hid ho2
  have HR := Lib.hid hr
  have HR2 := Lib.hid hr2
  clear hr hr2 ho ho2 hgr hgr2 hd hl hone h1 hown e0 hm
  subst hcj
  go_enter Tryz.func223, Tryz.ntmps223
  go_wp2
  go_region_law (refine yd5 rfl _ _ 242 242 rfl (.slice (some ⟨g, 0, none⟩) i c) (.slice (some ⟨g, 0, none⟩) 0 0) (by simp [Act.eval, Act.put]) (by simp [Act.eval, Act.put]) HR.out ?_)
  all_goals
   go_wp2_with (refine yhw _ rfl _ 242 rfl (.slice (some ⟨g, m * 1, none⟩) (n - m) (c - m)) (by simp [Act.eval]) HR2.out ?_)
   go_ret
   exact ⟨rfl, HO2.out, HG.out⟩
 ·obtain ⟨w1, hr, ho, hgr⟩ := run_append_fits (P := Tryz.prog) W.drew base 242 242 209 i0 1 Tryz.underlying242 hi0 hs0 g i c _ hd ⟨g, j * 1, none⟩ (n - j) (c - j) (xs.drop (j * 1)) hl (by
   intro k u hk
   have hlt : k < (xs.drop (j * 1)).length := (List.getElem?_eq_some_iff.1 hk).1
   have hjn : j * 1 ≤ n * 1 := Nat.mul_le_mul_right _ hj
   rw [hl, Nat.sub_mul] at hlt
   have hx : W.drew.cell? ⟨g, j * 1 + k, none⟩ = xs[j * 1 + k]? := hown.cellAt (j * 1 + k) (by omega)
   rw [Go.WideShapes.add_plain, hx, ← hk, List.getElem?_drop]) hone (by omega)
  rw [hm] at hr ho
  obtain ⟨w2, hr2, ho2, hgr2⟩ := ynq ho 242 (n - m) (c - m) (by omega) (by omega)
  have HG : Hid (W.grownBy w2 (some g)) := yck (yck (yfk (yen _ _)) hgr) hgr2
  have HO2 := Lib.hid ho2
  have HR := Lib.hid hr
  have HR2 := Lib.hid hr2
  clear hr hr2 ho ho2 hgr hgr2 hd hl hone h1 hown hm
  go_enter Tryz.func223, Tryz.ntmps223
  go_wp2
  go_region_law (refine yd5 rfl _ _ 242 242 rfl (.slice (some ⟨g, 0, none⟩) i c) (.slice (some ⟨g, j * 1, none⟩) (n - j) (c - j)) (by simp [Act.eval, Act.put]) (by simp [Act.eval, Act.put]) HR.out ?_)
  all_goals
   go_wp2_with (refine yhw _ rfl _ 242 rfl (.slice (some ⟨g, m * 1, none⟩) (n - m) (c - m)) (by simp [Act.eval]) HR2.out ?_)
   go_ret
   exact ⟨rfl, HO2.out, HG.out⟩
def ye0 (W : World) (base : Nat) (v : Value) (n i : Nat) (xs us : List Value) (e : Ending) (w' : World) : Prop :=
 ∃ v', e = .returned v' ∧ w'.ownsRow base 209 1 v' (n + 1) (xs.take (i * 1) ++ (us ++ xs.drop (i * 1))) ∧ W.grownBy w' v.ownBlock ∧ yax W v v'
theorem yve (base vb : Nat) (us : List Value) (W : World) (hb : base ≤ W.heap.size) (hl : us.length = 1) (hvb : W.heap[vb]? = some (.cells us.toArray 209 (0, 0))) (h1 : ∀ u ∈ us, u.oneCell' = true) :
  Calls Tryz.prog 220 #[.slice none 0 0, .int .i64 0, .slice (some ⟨vb, 0, none⟩) 1 1] W (ye0 W base (.slice none 0 0) 0 0 [] us) := by
 obtain ⟨i0, hi0, hz0, hs0, hb0⟩ := yez
 have hsrc : ∀ j u, us[j]? = some u → W.cell? ((⟨vb, 0, none⟩ : Addr).add j) = some u := fun j u hj => by
  rw [Go.WideShapes.add_plain, Nat.zero_add, cell_of_row W vb j us.toArray 209 (0, 0) hvb]; simpa using hj
 have HS := Lib.hid hsrc
 have HB := Lib.hid hb
 have HL : Hid (us.length = 1 * 1) := by show us.length = 1 * 1; rw [hl]
 clear hsrc hb hvb hl
 go_enter Tryz.func220, Tryz.ntmps220
 go_wp2_with (at_builtin; go_must (refine yhu rfl (.tmp 23) (.tmp 24) 242 rfl base 209 i0 (.pointer none) 1 8 Tryz.underlying242 hi0 hz0 hs0 hb0 rfl (by decide) (.slice none 0 0) 0 [] rfl (World.ownsRow_nil _ _ _ _) ⟨vb, 0, none⟩ 1 1 us rfl HL.out HS.out h1 (by unfold maxLen; omega) (by omega) HB.out ?_); intro v' w1 hown1 hg1 _ _ hsn; have HO := Lib.hid hown1; have HG := Lib.hid hg1; have HN := Lib.hid hsn; clear hown1 hg1 hsn)
 go_ret
 exact ⟨_, rfl, by simpa using HO.out, HG.out, HN.out⟩
theorem yvf (base vb g n c : Nat) (xs us : List Value) (W : World) (hown : W.ownsRow base 209 1 (.slice (some ⟨g, 0, none⟩) n c) n xs) (hn : n ≤ 100000) (hb : base ≤ W.heap.size) (hl : us.length = 1)
  (hvb : W.heap[vb]? = some (.cells us.toArray 209 (0, 0))) (h1 : ∀ u ∈ us, u.oneCell' = true) :
  Calls Tryz.prog 220 #[.slice (some ⟨g, 0, none⟩) n c, .int .i64 (n : Nat), .slice (some ⟨vb, 0, none⟩) 1 1] W (ye0 W base (.slice (some ⟨g, 0, none⟩) n c) n n xs us) := by
 obtain ⟨i0, hi0, hz0, hs0, hb0⟩ := yez
 have hsrc : ∀ j u, us[j]? = some u → W.cell? ((⟨vb, 0, none⟩ : Addr).add j) = some u := fun j u hj => by
  rw [Go.WideShapes.add_plain, Nat.zero_add, cell_of_row W vb j us.toArray 209 (0, 0) hvb]; simpa using hj
 have hnc : n ≤ c := by
  obtain ⟨_, _, a, _⟩ := yd3 hown
  exact a
 have HX := Lib.hid hown.1
 have HO0 := Lib.hid hown
 have HS := Lib.hid hsrc
 have HB := Lib.hid hb
 have HL : Hid (us.length = 1 * 1) := by show us.length = 1 * 1; rw [hl]
 clear hsrc hb hvb hl hown
 go_enter Tryz.func220, Tryz.ntmps220
 go_wp2_with (at_builtin; go_must (refine yhu rfl (.tmp 23) (.tmp 24) 242 rfl base 209 i0 (.pointer none) 1 8 Tryz.underlying242 hi0 hz0 hs0 hb0 rfl (by decide) (.slice (some ⟨g, 0, none⟩) n c) n xs rfl HO0.out ⟨vb, 0, none⟩ 1 1 us rfl HL.out HS.out h1 (by unfold maxLen; omega) (by omega) HB.out ?_); intro v' w1 hown1 hg1 _ _ hsn; have HO := Lib.hid hown1; have HG := Lib.hid hg1; have HN := Lib.hid hsn; clear hown1 hg1 hsn)
 all_goals
  go_ret
  exact ⟨_, rfl, by rw [List.take_of_length_le (by rw [HX.out]; exact Nat.le_refl _), List.drop_of_length_le (by rw [HX.out]; exact Nat.le_refl _), List.append_nil]; exact HO.out, HG.out, HN.out⟩
theorem yvg (base vb g n c i : Nat) (xs us : List Value) (W : World) (hown : W.ownsRow base 209 1 (.slice (some ⟨g, 0, none⟩) n c) n xs) (hi : i < n) (hn : n ≤ 100000) (hroom : n + 1 ≤ c) (hne : vb ≠ g) (hl : us.length = 1)
  (hvb : W.heap[vb]? = some (.cells us.toArray 209 (0, 0))) (h1 : ∀ u ∈ us, u.oneCell' = true) (h2 : ∀ u ∈ xs, u.oneCell' = true) :
  Calls Tryz.prog 220 #[.slice (some ⟨g, 0, none⟩) n c, .int .i64 (i : Nat), .slice (some ⟨vb, 0, none⟩) 1 1] W (ye0 W base (.slice (some ⟨g, 0, none⟩) n c) n i xs us) := by
 obtain ⟨cur, hg, hnc, hcm, hcs, ht, hbg⟩ := yd3 hown
 have hcm' : c ≤ 9223372036854775807 := by unfold maxLen at hcm; omega
 have e1 : i * 1 + us.length = (i + 1) * 1 := by rw [hl, Nat.add_mul, Nat.one_mul]
 have e2 : (xs.drop (i * 1)).length = (n - i) * 1 := by rw [List.length_drop, hown.1, ← Nat.sub_mul]
 have e3 : (i + 1) * 1 + (xs.drop (i * 1)).length = (n + 1) * 1 := by rw [e2, ← Nat.add_mul]; congr 1; omega
 have e4 : (n + 1) * 1 ≤ c * 1 := Nat.mul_le_mul_right _ hroom
 have e5 : (i + 1) * 1 + (xs.drop (i * 1)).length ≤ cur.toList.length := by rw [e3, Array.length_toList, hcs]; exact e4
 have hin : i * 1 ≤ n * 1 := Nat.mul_le_mul_right _ (by omega)
 have hmin1 : Nat.min (n + 1 - i) (n + 1 - (i + 1)) = n - i := by simp only [Nat.min_def]; split <;> omega
 have hmin2 : Nat.min 1 (n + 1 - i) = 1 := by simp only [Nat.min_def]; split <;> omega
 have hov : ∀ lb cb, (callFunc 232 #[.slice (some ⟨vb, 0, none⟩) 1 1, .slice (some ⟨g, (i + 1), none⟩) lb cb]).run Tryz.prog W = .ok (.value (.bool false)) W := fun lb cb => by
  rw [run_callFunc_extern Tryz.func232 (by kernel_rfl) (by kernel_rfl) (by kernel_rfl) (e := Extern.SlicesOverlaps.overlaps #[242, 242] #[4]) (by kernel_rfl),
   Lib.run_overlaps_apart W 242 4 209 Tryz.underlying242 1 (fun _ => by kernel_rfl) ⟨vb, 0, none⟩ ⟨g, (i + 1), none⟩ 1 1 lb cb hne 209 209 us.toArray.size cur.size (by simp [World.shape?, hvb]) (by simp [World.shape?, hg]) (by rw [hcs]; omega) (by simp [World.frozen?, hvb]) (by simp [World.frozen?, hvb])]
  rfl
 obtain ⟨W1, hW1⟩ : ∃ W1, W1 = W.drew.setRow g (lay cur.toList ((i + 1) * 1) (xs.drop (i * 1))).toArray := ⟨_, rfl⟩
 have hcp1 : ∀ ty dc sc, (Builtin.copy_ #[242, 242] ty #[.slice (some ⟨g, (i + 1) * 1, none⟩) (n + 1 - (i + 1)) dc, .slice (some ⟨g, i * 1, none⟩) (n + 1 - i) sc]).run Tryz.prog W.drew = .ok (goInt (n - i : Nat)) W1 := fun ty dc sc => by
  have h := yd4 (P := Tryz.prog) W.drew 242 242 ty 209 1 g ((i + 1) * 1) (n + 1 - (i + 1)) dc ⟨g, i * 1, none⟩ (n + 1 - i) sc cur 209 (xs.drop (i * 1)) Tryz.underlying242 yii hg (by rw [hmin1]; exact e2) (fun k u hk => by
   have hlt : k < (xs.drop (i * 1)).length := (List.getElem?_eq_some_iff.1 hk).1
   rw [e2, Nat.sub_mul] at hlt
   have hx : W.drew.cell? ⟨g, i * 1 + k, none⟩ = xs[i * 1 + k]? := hown.cellAt (i * 1 + k) (by omega)
   rw [Go.WideShapes.add_plain, hx, ← hk, List.getElem?_drop]) (by simpa using e5) (fun u hu => h2 u (List.mem_of_mem_drop hu))
  rw [hmin1] at h
  rw [h, hW1]; rfl
 have hg1 : W1.heap[g]? = some (.cells (lay cur.toList ((i + 1) * 1) (xs.drop (i * 1))).toArray 209 (0, 0)) := by rw [hW1]; exact setRow_heap W.drew g cur _ 209 _ hg
 have hvb1 : W1.heap[vb]? = some (.cells us.toArray 209 (0, 0)) := by rw [hW1, setRow_other W.drew g vb _ hne]; exact hvb
 have hL1 : (lay cur.toList ((i + 1) * 1) (xs.drop (i * 1))).length = c * 1 := by rw [yd6 _ _ _ e5, Array.length_toList, hcs]
 obtain ⟨W2, hW2⟩ : ∃ W2, W2 = W1.setRow g (lay (lay cur.toList ((i + 1) * 1) (xs.drop (i * 1))) (i * 1) us).toArray := ⟨_, rfl⟩
 have hcp2 : ∀ ty dc, (Builtin.copy_ #[242, 242] ty #[.slice (some ⟨g, i * 1, none⟩) (n + 1 - i) dc, .slice (some ⟨vb, 0, none⟩) 1 1]).run Tryz.prog W1 = .ok (goInt 1) W2 := fun ty dc => by
  have h := yd4 (P := Tryz.prog) W1 242 242 ty 209 1 g (i * 1) (n + 1 - i) dc ⟨vb, 0, none⟩ 1 1 _ 209 us Tryz.underlying242 yii hg1 (by rw [hmin2, hl]) (fun k u hk => by
   rw [Go.WideShapes.add_plain, Nat.zero_add, cell_of_row W1 vb k us.toArray 209 (0, 0) hvb1]; simpa using hk) (by rw [List.size_toArray, hL1, e1]; omega) h1
  rw [hmin2] at h
  rw [h, hW2]; rfl
 have hfin : ye0 W base (.slice (some ⟨g, 0, none⟩) n c) n i xs us (.returned (.slice (some ⟨g, 0, none⟩) (n + 1) c)) W2 := by
  refine ⟨_, rfl, yfj (cur := (lay (lay cur.toList ((i + 1) * 1) (xs.drop (i * 1))) (i * 1) us).toArray) ?_ hbg hroom hcm ?_ ?_, ?_, fun q hq => .inl hq⟩
  ·rw [hW2]; exact setRow_heap W1 g _ _ 209 _ hg1
  ·rw [List.size_toArray, yd6 _ _ _ (by rw [hL1, e1]; omega), hL1]
  ·rw [ylz _ _ _ _ _ e1.symm e5]
   have e6 : cur.toList.take (i * 1) = xs.take (i * 1) := by rw [← ht, List.take_take, Nat.min_eq_left hin]
   rw [e6, ← List.append_assoc, ← List.append_assoc, List.take_left' (by simp only [List.length_append, List.length_take, hown.1, Nat.min_eq_left hin, e1, e3]), List.append_assoc]
  ·rw [hW2]
   exact yck (by rw [hW1]; exact yck (yfk (yen _ _)) (ydg _ _ _)) (ydg _ _ _)
 have HF := Lib.hid hfin
 have HC1 := Lib.hid hcp1
 have HC2 := Lib.hid hcp2
 have hin' : ((i : Int) == (n : Int)) = false := by simp; omega
 have b1 : (i : Int) ≤ (n : Int) := by omega
 have b2 : i ≤ c := by omega
 have b3 : ¬ c = i := by omega
 have b4 : ¬ c = i + 1 := by omega
 have hw1 : IntKind.i64.wrap ((i : Int) + 1) = (i : Int) + 1 := by rw [IntKind.wrap_i64]; omega
 have hw0 : (0 : Int) ≤ (i : Int) + 1 := by omega
 have hwn : ((i : Int) + 1).toNat = i + 1 := by omega
 have b5 : (i : Int) ≤ (n : Int) + 1 := by omega
 clear hfin hcp1 hcp2 hg1 hvb1 hL1 hW1 hW2 hmin1 hmin2 e1 e2 e3 e4 e5 hin hown hg ht hcs hcm hbg hvb hl h1 h2
 go_enter Tryz.func220, Tryz.ntmps220
 go_wp2_with (simp only [hov])
 go_region_law (refine yhv rfl _ _ 242 242 rfl (.slice (some ⟨g, (i + 1) * 1, none⟩) (n + 1 - (i + 1)) (c - (i + 1))) (.slice (some ⟨g, i * 1, none⟩) (n + 1 - i) (c - i)) (by simp [Act.eval, Act.put]) (by simp [Act.eval, Act.put]) (HC1.out _ _ _) ?_)
 all_goals
  go_wp2_with (refine wpList_copy_run _ rfl _ _ 242 242 rfl (.slice (some ⟨g, i * 1, none⟩) (n + 1 - i) (c - i)) (.slice (some ⟨vb, 0, none⟩) 1 1) (by simp [Act.eval]) (by simp [Act.eval]) (HC2.out _ _) ?_)
  go_ret
  exact HF.out
theorem yvh (base vb g n i : Nat) (xs us : List Value) (W : World) (hown : W.ownsRow base 209 1 (.slice (some ⟨g, 0, none⟩) n n) n xs) (hi : i < n) (hn : n ≤ 100000) (hb : base ≤ W.heap.size) (hl : us.length = 1)
  (hvb : W.heap[vb]? = some (.cells us.toArray 209 (0, 0))) (h1 : ∀ u ∈ us, u.oneCell' = true) (h2 : ∀ u ∈ xs, u.oneCell' = true) :
  Calls Tryz.prog 220 #[.slice (some ⟨g, 0, none⟩) n n, .int .i64 (i : Nat), .slice (some ⟨vb, 0, none⟩) 1 1] W (ye0 W base (.slice (some ⟨g, 0, none⟩) n n) n i xs us) := by
 obtain ⟨i0, hi0, hz0, hs0, hb0⟩ := yez
 have hgw : g < W.heap.size := (hown.lt g rfl).2
 have hvw : vb < W.heap.size := (Array.getElem?_eq_some_iff.1 hvb).1
 have e1 : i * 1 + us.length = (i + 1) * 1 := by rw [hl, Nat.add_mul, Nat.one_mul]
 have e2 : (xs.drop (i * 1)).length = (n - i) * 1 := by rw [List.length_drop, hown.1, ← Nat.sub_mul]
 have e3 : (i + 1) * 1 + (xs.drop (i * 1)).length = (n + 1) * 1 := by rw [e2, ← Nat.add_mul]; congr 1; omega
 have hin : i * 1 ≤ n * 1 := Nat.mul_le_mul_right _ (by omega)
 have eT : (xs.take (i * 1)).length = i * 1 := by rw [List.length_take, hown.1]; omega
 have hmin1 : Nat.min (n - i) (n + 1 - (i + 1)) = n - i := by simp only [Nat.min_def]; split <;> omega
 have hmin2 : Nat.min 1 (n + 1 - i) = 1 := by simp only [Nat.min_def]; split <;> omega
 have hold : (Builtin.firstCells i0.size i (.slice (some ⟨g, 0, none⟩) i n)).run Tryz.prog W.drew = .ok (xs.take (i * 1)).toArray W.drew := by
  rw [hs0]
  exact run_firstCells_some (P := Tryz.prog) W.drew 1 i ⟨g, 0, none⟩ i n (xs.take (i * 1)) eT ((ygd hown i (by omega)).cells (g := g) rfl)
 have hik : i + (n + 1 - i) = n + 1 := by omega
 have hrz := Lib.run_append_grow_zeros (P := Tryz.prog) W 242 3 242 209 i0 (.pointer none) .i64 .i64 Tryz.underlying242 Tryz.underlying3 hi0 hz0 (some ⟨g, 0, none⟩) i n (xs.take (i * 1)) hold (n + 1 - i) (by omega) (by omega) (by omega) (by omega) (by rw [hb0]; omega) (by rw [hb0, hik]; exact growslice_fits (by omega) (by omega))
 rw [hik] at hrz
 obtain ⟨G, hG⟩ : ∃ G, G = grownCap W (n + 1) n 209 := ⟨_, rfl⟩
 have hGn : n + 1 ≤ G := by rw [hG]; exact grownCap_ge W _ _ _
 have hG63 : G ≤ maxLen := by rw [hG]; exact grownCap_le_maxLen W (n + 1) n 209 (by unfold maxLen; omega)
 rw [← hG] at hrz
 obtain ⟨ROW, hROW⟩ : ∃ ROW : Array Value, ROW = (xs.take (i * 1)).toArray ++ Builtin.zeroCells (Value.cells (.pointer none)) (n + 1 - i) ++ Builtin.zeroCells (Value.cells (.pointer none)) (G - (n + 1)) := ⟨_, rfl⟩
 rw [← hROW] at hrz
 have hzs : (Value.cells (.pointer none)).size = 1 := rfl
 have hRl : ROW.size = G * 1 := by
  rw [hROW, Array.size_append, Array.size_append, size_zeroCells, size_zeroCells, List.size_toArray, eT, hzs, ← Nat.add_mul, ← Nat.add_mul]
  congr 1; omega
 have hRt : ROW.toList.take (i * 1) = xs.take (i * 1) := by
  rw [hROW, Array.append_assoc, Array.toList_append, List.take_append_of_le_length (by simp only [eT, Nat.le_refl]), List.take_of_length_le (by simp only [eT, Nat.le_refl])]
 have e4 : (n + 1) * 1 ≤ G * 1 := Nat.mul_le_mul_right _ hGn
 have e5 : (i + 1) * 1 + (xs.drop (i * 1)).length ≤ ROW.toList.length := by rw [e3, Array.length_toList, hRl]; exact e4
 obtain ⟨h, hh⟩ : ∃ h, h = W.heap.size := ⟨_, rfl⟩
 obtain ⟨W1, hW1⟩ : ∃ W1, W1 = W.drew.alloc (.cells ROW 209) := ⟨_, rfl⟩
 rw [← hW1, ← hh] at hrz
 have hg1 : W1.heap[h]? = some (.cells ROW 209 (0, 0)) := by rw [hW1, hh]; exact heap_alloc_new W.drew _
 have hvb1 : W1.heap[vb]? = some (.cells us.toArray 209 (0, 0)) := by rw [hW1, Below.heap_alloc W.drew _ vb hvw]; exact hvb
 have hown1 : W1.ownsRow base 209 1 (.slice (some ⟨g, 0, none⟩) n n) n xs := by
  rw [hW1]
  have h0 : W.drew.ownsRow base 209 1 (.slice (some ⟨g, 0, none⟩) n n) n xs := hown
  exact h0.alloc _
 obtain ⟨W2, hW2⟩ : ∃ W2, W2 = W1.setRow h (lay ROW.toList (i * 1) us).toArray := ⟨_, rfl⟩
 have hL0 : i * 1 + us.length ≤ ROW.toList.length := by rw [e1, Array.length_toList, hRl]; omega
 have hcp2 : ∀ ty dc, (Builtin.copy_ #[242, 242] ty #[.slice (some ⟨h, i * 1, none⟩) (n + 1 - i) dc, .slice (some ⟨vb, 0, none⟩) 1 1]).run Tryz.prog W1 = .ok (goInt 1) W2 := fun ty dc => by
  have hq := yd4 (P := Tryz.prog) W1 242 242 ty 209 1 h (i * 1) (n + 1 - i) dc ⟨vb, 0, none⟩ 1 1 _ 209 us Tryz.underlying242 yii hg1 (by rw [hmin2, hl]) (fun k u hk => by
   rw [Go.WideShapes.add_plain, Nat.zero_add, cell_of_row W1 vb k us.toArray 209 (0, 0) hvb1]; simpa using hk) (by simpa using hL0) h1
  rw [hmin2] at hq
  rw [hq, hW2]; rfl
 have hg2 : W2.drew.heap[h]? = some (.cells (lay ROW.toList (i * 1) us).toArray 209 (0, 0)) := by rw [hW2]; exact setRow_heap W1 h _ _ 209 _ hg1
 have hown2 : W2.drew.ownsRow base 209 1 (.slice (some ⟨g, 0, none⟩) n n) n xs := by
  have h0 : W2.ownsRow base 209 1 (.slice (some ⟨g, 0, none⟩) n n) n xs := by
   rw [hW2]
   exact hown1.kept (ydg _ _ _) (.inr (by intro e; have h9 : g = h := Option.some.inj e; omega))
  exact h0
 have hL1 : (lay ROW.toList (i * 1) us).length = G * 1 := by rw [yd6 _ _ _ hL0, Array.length_toList, hRl]
 obtain ⟨W3, hW3⟩ : ∃ W3, W3 = W2.drew.setRow h (lay (lay ROW.toList (i * 1) us) ((i + 1) * 1) (xs.drop (i * 1))).toArray := ⟨_, rfl⟩
 have hcp1 : ∀ ty dc sc, (Builtin.copy_ #[242, 242] ty #[.slice (some ⟨h, (i + 1) * 1, none⟩) (n + 1 - (i + 1)) dc, .slice (some ⟨g, i * 1, none⟩) (n - i) sc]).run Tryz.prog W2.drew = .ok (goInt (n - i : Nat)) W3 := fun ty dc sc => by
  have hq := yd4 (P := Tryz.prog) W2.drew 242 242 ty 209 1 h ((i + 1) * 1) (n + 1 - (i + 1)) dc ⟨g, i * 1, none⟩ (n - i) sc _ 209 (xs.drop (i * 1)) Tryz.underlying242 yii hg2 (by rw [hmin1]; exact e2) (fun k u hk => by
   have hlt : k < (xs.drop (i * 1)).length := (List.getElem?_eq_some_iff.1 hk).1
   rw [e2, Nat.sub_mul] at hlt
   have hx : W2.drew.cell? ⟨g, i * 1 + k, none⟩ = xs[i * 1 + k]? := hown2.cellAt (i * 1 + k) (by omega)
   rw [Go.WideShapes.add_plain, hx, ← hk, List.getElem?_drop]) (by rw [List.size_toArray, hL1, e3]; exact e4) (fun u hu => h2 u (List.mem_of_mem_drop hu))
  rw [hmin1] at hq
  rw [hq, hW3]; rfl
 have hfin : ye0 W base (.slice (some ⟨g, 0, none⟩) n n) n i xs us (.returned (.slice (some ⟨h, 0, none⟩) (n + 1) G)) W3 := by
  refine ⟨_, rfl, yfj (cur := (lay (lay ROW.toList (i * 1) us) ((i + 1) * 1) (xs.drop (i * 1))).toArray) ?_ (by omega) hGn hG63 ?_ ?_, ?_, fun q hq => .inr ?_⟩
  ·rw [hW3]; exact setRow_heap W2.drew h _ _ 209 _ hg2
  ·rw [List.size_toArray, yd6 _ _ _ (by rw [hL1, e3]; exact e4), hL1]
  ·rw [yl0 _ _ _ _ _ e1.symm e5, hRt, ← List.append_assoc, ← List.append_assoc, List.take_left' (by simp only [List.length_append, eT, e1, e3]), List.append_assoc]
  ·rw [hW3]
   refine ⟨?_, ?_, ?_, ?_, ?_⟩
   ·rw [hW2, hW1]; rfl
   ·rw [hW2, hW1]; rfl
   ·rw [hW2, hW1]; rfl
   ·rw [size_setRow, hW2]; show W.heap.size ≤ (W1.setRow h _).heap.size; rw [size_setRow, hW1]; simp
   ·intro k hk _
    rw [setRow_other W2.drew h k _ (by omega), hW2]
    show (W1.setRow h _).heap[k]? = _
    rw [setRow_other W1 h k _ (by omega), hW1, Below.heap_alloc W.drew _ k hk]; rfl
  ·have h9 : h = q := Option.some.inj hq
   omega
 have HF := Lib.hid hfin
 have HC1 := Lib.hid hcp1
 have HC2 := Lib.hid hcp2
 have HA := Lib.hid hrz
 have hG9 : G ≤ 9223372036854775807 := by unfold maxLen at hG63; omega
 have hin' : ((i : Int) == (n : Int)) = false := by simp; omega
 have hkk : (n : Int) + 1 - (i : Int) = ((n + 1 - i : Nat) : Int) := by omega
 have HK := Lib.hid hkk
 have b1 : (i : Int) ≤ (n : Int) := by omega
 have b2 : i ≤ n := by omega
 have b3 : ¬ n = i := by omega
 have b4 : ¬ G = i + 1 := by omega
 have b6 : ¬ G = i := by omega
 have b7 : (i : Int) ≤ (n : Int) + 1 := by omega
 have hw1 : IntKind.i64.wrap ((i : Int) + 1) = (i : Int) + 1 := by rw [IntKind.wrap_i64]; omega
 have hw0 : (0 : Int) ≤ (i : Int) + 1 := by omega
 have hwn : ((i : Int) + 1).toNat = i + 1 := by omega
 clear hfin hcp1 hcp2 hrz hkk hg1 hg2 hvb1 hL0 hL1 hW1 hW2 hW3 hmin1 hmin2 e1 e2 e3 e4 e5 eT hin hown hown1 hown2 hvb hl h1 h2 hROW hRt hRl hG hG63 hold hgw hvw hb hh hzs hik
 go_enter Tryz.func220, Tryz.ntmps220
 go_wp2_with (first
  | (at_builtin; refine Lib.wpList_append_run _ rfl _ _ 242 3 rfl (.slice (some ⟨g, 0, none⟩) i n) (.int .i64 ((n + 1 - i : Nat) : Int)) (by simp [Act.eval]) (by simp [Act.eval, HK.out]) _ _ HA.out ?_)
  | (refine wpList_copy_run _ rfl _ _ 242 242 rfl (.slice (some ⟨h, i * 1, none⟩) (n + 1 - i) (G - i)) (.slice (some ⟨vb, 0, none⟩) 1 1) (by simp [Act.eval]) (by simp [Act.eval]) (HC2.out _ _) ?_))
 go_region_law (refine yhv rfl _ _ 242 242 rfl (.slice (some ⟨h, (i + 1) * 1, none⟩) (n + 1 - (i + 1)) (G - (i + 1))) (.slice (some ⟨g, i * 1, none⟩) (n - i) (n - i)) (by simp [Act.eval, Act.put]) (by simp [Act.eval, Act.put]) (HC1.out _ _ _) ?_)
 all_goals
  go_wp2
  go_ret
  exact HF.out
theorem yvi (base vb n i : Nat) (v : Value) (xs us : List Value) (W : World) (hown : W.ownsRow base 96 2 v n xs) (hi : i ≤ n) (hn : n ≤ 100000) (hb : base ≤ W.heap.size) (hne : v.ownBlock ≠ some vb) (hl : us.length = 2)
  (hvb : W.heap[vb]? = some (.cells us.toArray 96 (0, 0))) (h1 : ∀ u ∈ us, u.oneCell' = true) (h2 : ∀ u ∈ xs, u.oneCell' = true) :
  Calls Tryz.prog 219 #[v, .int .i64 (i : Nat), .slice (some ⟨vb, 0, none⟩) 1 1] W (yey W base v n i xs us) := by
 rcases hown.2 with ⟨rfl, rfl⟩ | ⟨g, c, cur, rfl, hbg, hg, hnc, hcm, hcs, ht⟩
 ·obtain rfl : i = 0 := by omega
  obtain rfl : xs = [] := List.eq_nil_of_length_eq_zero (by simpa using hown.1)
  exact yu8 base vb us W hb hl hvb h1
 ·rcases Nat.lt_or_ge i n with h | h
  ·rcases Nat.lt_or_ge n c with h3 | h3
   ·exact yva base vb g n c i xs us W hown h hn h3 (fun e => hne (by rw [e]; rfl)) hl hvb h1 h2
   ·obtain rfl : c = n := by omega
    exact yvb base vb g c i xs us W hown h hn hb hl hvb h1 h2
  ·obtain rfl : i = n := by omega
   exact yu9 base vb g i c xs us W hown hn hb hl hvb h1
theorem yij (g o k d : Nat) (news : List Value) (W : World) (hl : news.length = k * 2) (hk : k ≤ 100000) (hnews : ∀ j u, news[j]? = some u → W.cell? ((⟨g, o, none⟩ : Addr).add j) = some u) (h1 : ∀ u ∈ news, u.oneCell' = true) :
  Calls Tryz.prog 199 #[.slice (some ⟨g, o, none⟩) k d] W fun e w' => ∃ v', e = .returned v' ∧ w'.ownsRow W.heap.size 96 2 v' k news ∧ Below W.heap.size W w' := by
 obtain ⟨i0, hi0, hz0, hs0, hb0⟩ := ydk
 have HS : ∀ ob : Obj, Hid (∀ j u, news[j]? = some u → (W.alloc ob).cell? ((⟨g, o, none⟩ : Addr).add j) = some u)
   := fun ob j u hj => Lib.cell?_alloc_some _ (hnews j u hj)
 have HO := fun cs => Lib.hid (World.ownsRow_made (base := W.heap.size) (e := 96) (size := 2) W cs 0 (Nat.le_refl _) (Nat.zero_le _))
 have HL := Lib.hid hl
 have hq := Lib.run_eql_slice_nil (P := Tryz.prog) W 22 96 (some ⟨g, o, none⟩) k d 0 0 Tryz.underlying22
 clear hnews hl
 go_enter Tryz.func199, Tryz.ntmps199
 go_wp2_with (at_builtin; go_must (refine wpList_append_own _ rfl (.tmp 5) (.tmp 6) 22 rfl W.heap.size 96 i0 (.agg #[.string ⟨#[]⟩, .string ⟨#[]⟩]) 2 32 Tryz.underlying22 hi0 hz0 hs0 hb0 rfl (by decide) (.slice (some ⟨W.heap.size, 0, none⟩) 0 0) 0 [] rfl ((HO _).out (by rfl)) ⟨g, o, none⟩ k d news rfl HL.out (HS _).out h1 (by unfold maxLen; omega) (by omega) (by simp) ?_); intro v' w1 hown1 hg1 hnil; have HO1 := Lib.hid hown1; have HG := Lib.hid hg1; clear hown1 hg1 hnil)
 go_ret
 exact ⟨_, rfl, by simpa using HO1.out, ((Below.refl _ _).alloc (Nat.le_refl _) _).grown HG.out (by simp) (fun q hq => by have h9 : W.heap.size = q := Option.some.inj hq; omega)⟩
theorem yvj (base vb n i : Nat) (v : Value) (xs us : List Value) (W : World) (hown : W.ownsRow base 209 1 v n xs) (hi : i ≤ n) (hn : n ≤ 100000) (hb : base ≤ W.heap.size) (hne : v.ownBlock ≠ some vb) (hl : us.length = 1)
  (hvb : W.heap[vb]? = some (.cells us.toArray 209 (0, 0))) (h1 : ∀ u ∈ us, u.oneCell' = true) (h2 : ∀ u ∈ xs, u.oneCell' = true) :
  Calls Tryz.prog 220 #[v, .int .i64 (i : Nat), .slice (some ⟨vb, 0, none⟩) 1 1] W (ye0 W base v n i xs us) := by
 rcases hown.2 with ⟨rfl, rfl⟩ | ⟨g, c, cur, rfl, hbg, hg, hnc, hcm, hcs, ht⟩
 ·obtain rfl : i = 0 := by omega
  obtain rfl : xs = [] := List.eq_nil_of_length_eq_zero (by simpa using hown.1)
  exact yve base vb us W hb hl hvb h1
 ·rcases Nat.lt_or_ge i n with h | h
  ·rcases Nat.lt_or_ge n c with h3 | h3
   ·exact yvg base vb g n c i xs us W hown h hn h3 (fun e => hne (by rw [e]; rfl)) hl hvb h1 h2
   ·obtain rfl : c = n := by omega
    exact yvh base vb g c i xs us W hown h hn hb hl hvb h1 h2
  ·obtain rfl : i = n := by omega
   exact yvf base vb g i c xs us W hown hn hb hl hvb h1
theorem yvk (g o k d : Nat) (news : List Value) (W : World) (hl : news.length = k * 1) (hk : k ≤ 100000) (hnews : ∀ j u, news[j]? = some u → W.cell? ((⟨g, o, none⟩ : Addr).add j) = some u) (h1 : ∀ u ∈ news, u.oneCell' = true) :
  Calls Tryz.prog 222 #[.slice (some ⟨g, o, none⟩) k d] W fun e w' => ∃ v', e = .returned v' ∧ w'.ownsRow W.heap.size 209 1 v' k news ∧ Below W.heap.size W w' := by
 obtain ⟨i0, hi0, hz0, hs0, hb0⟩ := yez
 have HS : ∀ ob : Obj, Hid (∀ j u, news[j]? = some u → (W.alloc ob).cell? ((⟨g, o, none⟩ : Addr).add j) = some u)
   := fun ob j u hj => Lib.cell?_alloc_some _ (hnews j u hj)
 have HO := fun cs => Lib.hid (World.ownsRow_made (base := W.heap.size) (e := 209) (size := 1) W cs 0 (Nat.le_refl _) (Nat.zero_le _))
 have HL := Lib.hid hl
 have hq := Lib.run_eql_slice_nil (P := Tryz.prog) W 242 209 (some ⟨g, o, none⟩) k d 0 0 Tryz.underlying242
 clear hnews hl
 go_enter Tryz.func222, Tryz.ntmps222
 go_wp2_with (at_builtin; go_must (refine wpList_append_own _ rfl (.tmp 5) (.tmp 6) 242 rfl W.heap.size 209 i0 (.pointer none) 1 8 Tryz.underlying242 hi0 hz0 hs0 hb0 rfl (by decide) (.slice (some ⟨W.heap.size, 0, none⟩) 0 0) 0 [] rfl ((HO _).out (by rfl)) ⟨g, o, none⟩ k d news rfl HL.out (HS _).out h1 (by unfold maxLen; omega) (by omega) (by simp) ?_); intro v' w1 hown1 hg1 hnil; have HO1 := Lib.hid hown1; have HG := Lib.hid hg1; clear hown1 hg1 hnil)
 go_ret
 exact ⟨_, rfl, by simpa using HO1.out, ((Below.refl _ _).alloc (Nat.le_refl _) _).grown HG.out (by simp) (fun q hq => by have h9 : W.heap.size = q := Option.some.inj hq; omega)⟩
end Go.Proofs.YtnjodhglbapnlaaGreat
