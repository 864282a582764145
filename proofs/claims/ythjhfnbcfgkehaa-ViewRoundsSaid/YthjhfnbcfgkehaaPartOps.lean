/-
  The library's Delete, Insert and Clone, of a view's parts: what a row that somebody owns is behind them. (Written by tools/genVO.py out of the text for items and nodes.)
-/
import Derived.Test.YthjhfnbcfgkehaaRowOps
import Derived.Test.YthjhfnbcfgkehaaAppendAny
import Derived.Test.YthjhfnbcfgkehaaAppendOld
namespace Go.Proofs.Ythjhfnbcfgkehaa
open Go.RowKit


theorem infoParts : ∃ i, Try.prog.info? 50 = some i ∧ i.zero = some (.agg #[.int .u64 0, .int .i64 0, .int .i64 0]) ∧ i.size = 3 ∧ i.bytes = 24 := by
  have h : (Try.prog.info? 50).map (fun i => (i.zero, i.size, i.bytes)) = some (some (.agg #[.int .u64 0, .int .i64 0, .int .i64 0]), 3, 24) := by kernel_rfl
  obtain ⟨i, hi, hx⟩ := Option.map_eq_some_iff.1 h
  simp only [Prod.mk.injEq] at hx
  exact ⟨i, hi, hx⟩
theorem sizeParts : (Try.prog.info? 50).map (·.size) = some 3 := by kernel_rfl
theorem zeroParts : ∀ w, (zeroValue 50).run Try.prog w = .ok (.agg #[.int .u64 0, .int .i64 0, .int .i64 0]) w := fun _ => by kernel_rfl
theorem clearParts {W : World} {base g n c : Nat} {xs : List Value} (h : W.ownsRow base 50 3 (.slice (some ⟨g, 0, none⟩) n c) n xs) (ty : TypeId) (k d : Nat) (hk : n + k ≤ c) (h0 : 0 < k) :
    ∃ w', (Builtin.clear_ #[30] ty #[.slice (some ⟨g, n * 3, none⟩) k d]).run Try.prog W = .ok (.tuple #[]) w' ∧ w'.ownsRow base 50 3 (.slice (some ⟨g, 0, none⟩) n c) n xs ∧ W.grownBy w' (some g) := by
  obtain ⟨cur, hg, hnc, hcm, hcs, ht, hb⟩ := own_raw h
  have hz : (Value.cells (.agg #[.int .u64 0, .int .i64 0, .int .i64 0])).size = 3 := rfl
  have hone : ∀ u ∈ (Value.cells (.agg #[.int .u64 0, .int .i64 0, .int .i64 0])), u.oneCell' = true := by
    intro u hu
    exact (Array.all_eq_true_iff_forall_mem.1 (by kernel_rfl : (Value.cells (.agg #[.int .u64 0, .int .i64 0, .int .i64 0])).all (·.oneCell') = true)) u hu
  have hr := run_clear_rowN W 30 50 ty (.agg #[.int .u64 0, .int .i64 0, .int .i64 0]) Try.underlying30 zeroParts hone g (n * 3) k d cur 50 h0 hg (by rw [hz, hcs, ← Nat.add_mul]; exact Nat.mul_le_mul_right _ hk)
  refine ⟨_, hr, own_of_raw (setRow_heap W g cur _ 50 _ hg) hb hnc hcm ?_ ?_, grown_setRow _ _ _⟩
  · have e1 : (Builtin.zeroCells (Value.cells (.agg #[.int .u64 0, .int .i64 0, .int .i64 0])) k).toList.length = k * 3 := by rw [Array.length_toList, size_zeroCells]; rfl
    have e2 : (n + k) * 3 ≤ c * 3 := Nat.mul_le_mul_right _ hk
    rw [Nat.add_mul] at e2
    simp only [List.size_toArray, List.length_append, List.length_take, List.length_drop, Array.length_toList, e1, hcs]
    omega
  · have e2 : n * 3 ≤ c * 3 := Nat.mul_le_mul_right _ hnc
    simp only [List.append_assoc]
    rw [List.take_append_of_le_length (by rw [List.length_take, Array.length_toList, hcs]; omega), List.take_take, Nat.min_self, ht]

set_option maxRecDepth 100000 in
set_option maxHeartbeats 2000000 in
theorem delParts_any (g n c i j base : Nat) (xs : List Value) (W : World) (hown : W.ownsRow base 50 3 (.slice (some ⟨g, 0, none⟩) n c) n xs) (hij : i < j) (hj : j ≤ n) (hn : n ≤ 100000) (h1 : ∀ u ∈ xs, u.oneCell' = true) :
    Calls Try.prog 34 #[.slice (some ⟨g, 0, none⟩) n c, .int .i64 (i : Nat), .int .i64 (j : Nat)] W fun e w' => e = .returned (.slice (some ⟨g, 0, none⟩) (i + (n - j)) c) ∧
      w'.ownsRow base 50 3 (.slice (some ⟨g, 0, none⟩) (i + (n - j)) c) (i + (n - j)) (xs.take (i * 3) ++ xs.drop (j * 3)) ∧ W.grownBy w' (some g) := by
  obtain ⟨i0, hi0, hz0, hs0, hb0⟩ := infoParts
  obtain ⟨m, hm⟩ : ∃ m, i + (n - j) = m := ⟨_, rfl⟩
  have hc : n ≤ c ∧ c ≤ 9223372036854775807 := by
    obtain ⟨_, _, a, b, _⟩ := own_raw hown
    unfold maxLen at b
    exact ⟨a, by omega⟩
  obtain ⟨hnc, hcm⟩ := hc
  have HO := Lib.hid hown
  have hd : W.drew.ownsRow base 50 3 (.slice (some ⟨g, 0, none⟩) i c) i (xs.take (i * 3)) := own_take hown i (by omega)
  have hl : (xs.drop (j * 3)).length = (n - j) * 3 := by rw [List.length_drop, hown.1, ← Nat.sub_mul]
  have hone : ∀ u ∈ xs.drop (j * 3), u.oneCell' = true := fun u hu => h1 u (List.mem_of_mem_drop hu)
  have hij' : ((i : Int) == (j : Int)) = false := by simp; omega
  have b1 : (i : Int) ≤ (j : Int) := by omega
  have b2 : (j : Int) ≤ (n : Int) := by omega
  have b3 : j ≤ n := hj
  have b4 : i ≤ c := by omega
  have b5 : m < n := by omega
  have b6 : m ≤ c := by omega
  have b7 : ¬ c = m := by omega
  rw [hm]
  by_cases hcj : c = j
  · have hnil : xs.drop (j * 3) = [] := List.eq_nil_of_length_eq_zero (by rw [hl, show n - j = 0 by omega, Nat.zero_mul])
    obtain ⟨w1, hr, ho, hgr⟩ := run_append_fits (P := Try.prog) W.drew base 30 30 50 i0 3 Try.underlying30 hi0 hs0 g i c _ hd ⟨g, 0, none⟩ 0 0 (xs.drop (j * 3)) (by rw [hnil]; rfl) (by intro k u hk; rw [hnil] at hk; cases hk) hone (by omega)
    have e0 : i + 0 = m := by omega
    rw [e0] at hr ho
    obtain ⟨w2, hr2, ho2, hgr2⟩ := clearParts ho 30 (n - m) (c - m) (by omega) (by omega)
    have HG : Hid (W.grownBy w2 (some g)) := grown_trans (grown_trans (grown_drew (grown_refl _ _)) hgr) hgr2
    have HO2 := Lib.hid ho2
    have HR := Lib.hid hr
    have HR2 := Lib.hid hr2
    clear hr hr2 ho ho2 hgr hgr2 hd hl hone h1 hown e0 hm
    subst hcj
    go_enter Try.func34, Try.ntmps34
    go_wp2
    go_region_law (refine step_append_run rfl _ _ 30 30 rfl (.slice (some ⟨g, 0, none⟩) i c) (.slice (some ⟨g, 0, none⟩) 0 0) (by simp [Act.eval, Act.put]) (by simp [Act.eval, Act.put]) HR.out ?_)
    all_goals
      go_wp2_with (refine wpList_clear_run _ rfl _ 30 rfl (.slice (some ⟨g, m * 3, none⟩) (n - m) (c - m)) (by simp [Act.eval]) HR2.out ?_)
      go_ret
      exact ⟨rfl, HO2.out, HG.out⟩
  · obtain ⟨w1, hr, ho, hgr⟩ := run_append_fits (P := Try.prog) W.drew base 30 30 50 i0 3 Try.underlying30 hi0 hs0 g i c _ hd ⟨g, j * 3, none⟩ (n - j) (c - j) (xs.drop (j * 3)) hl (by
      intro k u hk
      have hlt : k < (xs.drop (j * 3)).length := (List.getElem?_eq_some_iff.1 hk).1
      have hjn : j * 3 ≤ n * 3 := Nat.mul_le_mul_right _ hj
      rw [hl, Nat.sub_mul] at hlt
      have hx : W.drew.cell? ⟨g, j * 3 + k, none⟩ = xs[j * 3 + k]? := hown.cellAt (j * 3 + k) (by omega)
      rw [Go.WideShapes.add_plain, hx, ← hk, List.getElem?_drop]) hone (by omega)
    rw [hm] at hr ho
    obtain ⟨w2, hr2, ho2, hgr2⟩ := clearParts ho 30 (n - m) (c - m) (by omega) (by omega)
    have HG : Hid (W.grownBy w2 (some g)) := grown_trans (grown_trans (grown_drew (grown_refl _ _)) hgr) hgr2
    have HO2 := Lib.hid ho2
    have HR := Lib.hid hr
    have HR2 := Lib.hid hr2
    clear hr hr2 ho ho2 hgr hgr2 hd hl hone h1 hown hm
    go_enter Try.func34, Try.ntmps34
    go_wp2
    go_region_law (refine step_append_run rfl _ _ 30 30 rfl (.slice (some ⟨g, 0, none⟩) i c) (.slice (some ⟨g, j * 3, none⟩) (n - j) (c - j)) (by simp [Act.eval, Act.put]) (by simp [Act.eval, Act.put]) HR.out ?_)
    all_goals
      go_wp2_with (refine wpList_clear_run _ rfl _ 30 rfl (.slice (some ⟨g, m * 3, none⟩) (n - m) (c - m)) (by simp [Act.eval]) HR2.out ?_)
      go_ret
      exact ⟨rfl, HO2.out, HG.out⟩

/-- what Insert of one element leaves -/
def InsParts (W : World) (base : Nat) (v : Value) (n i : Nat) (xs us : List Value) (e : Ending) (w' : World) : Prop :=
  ∃ v', e = .returned v' ∧ w'.ownsRow base 50 3 v' (n + 1) (xs.take (i * 3) ++ (us ++ xs.drop (i * 3))) ∧ W.grownBy w' v.ownBlock ∧ SameOrNew W v v'
set_option maxRecDepth 100000 in
set_option maxHeartbeats 2000000 in
theorem insParts_nil (base vb : Nat) (us : List Value) (W : World) (hb : base ≤ W.heap.size) (hl : us.length = 3) (hvb : W.heap[vb]? = some (.cells us.toArray 50 (0, 0))) (h1 : ∀ u ∈ us, u.oneCell' = true) :
    Calls Try.prog 31 #[.slice none 0 0, .int .i64 0, .slice (some ⟨vb, 0, none⟩) 1 1] W (InsParts W base (.slice none 0 0) 0 0 [] us) := by
  obtain ⟨i0, hi0, hz0, hs0, hb0⟩ := infoParts
  have hsrc : ∀ j u, us[j]? = some u → W.cell? ((⟨vb, 0, none⟩ : Addr).add j) = some u := fun j u hj => by
    rw [Go.WideShapes.add_plain, Nat.zero_add, cell_of_row W vb j us.toArray 50 (0, 0) hvb]; simpa using hj
  have HS := Lib.hid hsrc
  have HB := Lib.hid hb
  have HL : Hid (us.length = 1 * 3) := by show us.length = 1 * 3; rw [hl]
  clear hsrc hb hvb hl
  go_enter Try.func31, Try.ntmps31
  go_wp2_with (at_builtin; go_must (refine wpList_append_old rfl (.tmp 23) (.tmp 24) 30 rfl base 50 i0 (.agg #[.int .u64 0, .int .i64 0, .int .i64 0]) 3 24 Try.underlying30 hi0 hz0 hs0 hb0 rfl (by decide) (.slice none 0 0) 0 [] rfl (World.ownsRow_nil _ _ _ _) ⟨vb, 0, none⟩ 1 1 us rfl HL.out HS.out h1 (by unfold maxLen; omega) (by omega) HB.out ?_); intro v' w1 hown1 hg1 _ _ hsn; have HO := Lib.hid hown1; have HG := Lib.hid hg1; have HN := Lib.hid hsn; clear hown1 hg1 hsn)
  go_ret
  exact ⟨_, rfl, by simpa using HO.out, HG.out, HN.out⟩
set_option maxRecDepth 100000 in
set_option maxHeartbeats 2000000 in
theorem insParts_end (base vb g n c : Nat) (xs us : List Value) (W : World) (hown : W.ownsRow base 50 3 (.slice (some ⟨g, 0, none⟩) n c) n xs) (hn : n ≤ 100000) (hb : base ≤ W.heap.size) (hl : us.length = 3)
    (hvb : W.heap[vb]? = some (.cells us.toArray 50 (0, 0))) (h1 : ∀ u ∈ us, u.oneCell' = true) :
    Calls Try.prog 31 #[.slice (some ⟨g, 0, none⟩) n c, .int .i64 (n : Nat), .slice (some ⟨vb, 0, none⟩) 1 1] W (InsParts W base (.slice (some ⟨g, 0, none⟩) n c) n n xs us) := by
  obtain ⟨i0, hi0, hz0, hs0, hb0⟩ := infoParts
  have hsrc : ∀ j u, us[j]? = some u → W.cell? ((⟨vb, 0, none⟩ : Addr).add j) = some u := fun j u hj => by
    rw [Go.WideShapes.add_plain, Nat.zero_add, cell_of_row W vb j us.toArray 50 (0, 0) hvb]; simpa using hj
  have hnc : n ≤ c := by
    obtain ⟨_, _, a, _⟩ := own_raw hown
    exact a
  have HX := Lib.hid hown.1
  have HO0 := Lib.hid hown
  have HS := Lib.hid hsrc
  have HB := Lib.hid hb
  have HL : Hid (us.length = 1 * 3) := by show us.length = 1 * 3; rw [hl]
  clear hsrc hb hvb hl hown
  go_enter Try.func31, Try.ntmps31
  go_wp2_with (at_builtin; go_must (refine wpList_append_old rfl (.tmp 23) (.tmp 24) 30 rfl base 50 i0 (.agg #[.int .u64 0, .int .i64 0, .int .i64 0]) 3 24 Try.underlying30 hi0 hz0 hs0 hb0 rfl (by decide) (.slice (some ⟨g, 0, none⟩) n c) n xs rfl HO0.out ⟨vb, 0, none⟩ 1 1 us rfl HL.out HS.out h1 (by unfold maxLen; omega) (by omega) HB.out ?_); intro v' w1 hown1 hg1 _ _ hsn; have HO := Lib.hid hown1; have HG := Lib.hid hg1; have HN := Lib.hid hsn; clear hown1 hg1 hsn)
  all_goals
    go_ret
    exact ⟨_, rfl, by rw [List.take_of_length_le (by rw [HX.out]; exact Nat.le_refl _), List.drop_of_length_le (by rw [HX.out]; exact Nat.le_refl _), List.append_nil]; exact HO.out, HG.out, HN.out⟩
set_option maxRecDepth 100000 in
set_option maxHeartbeats 2000000 in
theorem insParts_room (base vb g n c i : Nat) (xs us : List Value) (W : World) (hown : W.ownsRow base 50 3 (.slice (some ⟨g, 0, none⟩) n c) n xs) (hi : i < n) (hn : n ≤ 100000) (hroom : n + 1 ≤ c) (hne : vb ≠ g) (hl : us.length = 3)
    (hvb : W.heap[vb]? = some (.cells us.toArray 50 (0, 0))) (h1 : ∀ u ∈ us, u.oneCell' = true) (h2 : ∀ u ∈ xs, u.oneCell' = true) :
    Calls Try.prog 31 #[.slice (some ⟨g, 0, none⟩) n c, .int .i64 (i : Nat), .slice (some ⟨vb, 0, none⟩) 1 1] W (InsParts W base (.slice (some ⟨g, 0, none⟩) n c) n i xs us) := by
  obtain ⟨cur, hg, hnc, hcm, hcs, ht, hbg⟩ := own_raw hown
  have hcm' : c ≤ 9223372036854775807 := by unfold maxLen at hcm; omega
  have e1 : i * 3 + us.length = (i + 1) * 3 := by rw [hl, Nat.add_mul, Nat.one_mul]
  have e2 : (xs.drop (i * 3)).length = (n - i) * 3 := by rw [List.length_drop, hown.1, ← Nat.sub_mul]
  have e3 : (i + 1) * 3 + (xs.drop (i * 3)).length = (n + 1) * 3 := by rw [e2, ← Nat.add_mul]; congr 1; omega
  have e4 : (n + 1) * 3 ≤ c * 3 := Nat.mul_le_mul_right _ hroom
  have e5 : (i + 1) * 3 + (xs.drop (i * 3)).length ≤ cur.toList.length := by rw [e3, Array.length_toList, hcs]; exact e4
  have hin : i * 3 ≤ n * 3 := Nat.mul_le_mul_right _ (by omega)
  have hmin1 : Nat.min (n + 1 - i) (n + 1 - (i + 1)) = n - i := by simp only [Nat.min_def]; split <;> omega
  have hmin2 : Nat.min 1 (n + 1 - i) = 1 := by simp only [Nat.min_def]; split <;> omega
  have hov : ∀ lb cb, (callFunc 39 #[.slice (some ⟨vb, 0, none⟩) 1 1, .slice (some ⟨g, (i + 1) * 3, none⟩) lb cb]).run Try.prog W = .ok (.value (.bool false)) W := fun lb cb => by
    rw [run_callFunc_extern Try.func39 (by kernel_rfl) (by kernel_rfl) (by kernel_rfl) (e := Extern.SlicesOverlaps.overlaps #[30, 30] #[4]) (by kernel_rfl),
      Lib.run_overlaps_apart W 30 4 50 Try.underlying30 3 (fun _ => by kernel_rfl) ⟨vb, 0, none⟩ ⟨g, (i + 1) * 3, none⟩ 1 1 lb cb hne 50 50 us.toArray.size cur.size (by simp [World.shape?, hvb]) (by simp [World.shape?, hg]) (by rw [hcs]; omega) (by simp [World.frozen?, hvb]) (by simp [World.frozen?, hvb])]
    rfl
  obtain ⟨W1, hW1⟩ : ∃ W1, W1 = W.drew.setRow g (lay cur.toList ((i + 1) * 3) (xs.drop (i * 3))).toArray := ⟨_, rfl⟩
  have hcp1 : ∀ ty dc sc, (Builtin.copy_ #[30, 30] ty #[.slice (some ⟨g, (i + 1) * 3, none⟩) (n + 1 - (i + 1)) dc, .slice (some ⟨g, i * 3, none⟩) (n + 1 - i) sc]).run Try.prog W.drew = .ok (goInt (n - i : Nat)) W1 := fun ty dc sc => by
    have h := run_copy_rowN (P := Try.prog) W.drew 30 30 ty 50 3 g ((i + 1) * 3) (n + 1 - (i + 1)) dc ⟨g, i * 3, none⟩ (n + 1 - i) sc cur 50 (xs.drop (i * 3)) Try.underlying30 sizeParts hg (by rw [hmin1]; exact e2) (fun k u hk => by
      have hlt : k < (xs.drop (i * 3)).length := (List.getElem?_eq_some_iff.1 hk).1
      rw [e2, Nat.sub_mul] at hlt
      have hx : W.drew.cell? ⟨g, i * 3 + k, none⟩ = xs[i * 3 + k]? := hown.cellAt (i * 3 + k) (by omega)
      rw [Go.WideShapes.add_plain, hx, ← hk, List.getElem?_drop]) (by simpa using e5) (fun u hu => h2 u (List.mem_of_mem_drop hu))
    rw [hmin1] at h
    rw [h, hW1]; rfl
  have hg1 : W1.heap[g]? = some (.cells (lay cur.toList ((i + 1) * 3) (xs.drop (i * 3))).toArray 50 (0, 0)) := by rw [hW1]; exact setRow_heap W.drew g cur _ 50 _ hg
  have hvb1 : W1.heap[vb]? = some (.cells us.toArray 50 (0, 0)) := by rw [hW1, setRow_other W.drew g vb _ hne]; exact hvb
  have hL1 : (lay cur.toList ((i + 1) * 3) (xs.drop (i * 3))).length = c * 3 := by rw [length_lay _ _ _ e5, Array.length_toList, hcs]
  obtain ⟨W2, hW2⟩ : ∃ W2, W2 = W1.setRow g (lay (lay cur.toList ((i + 1) * 3) (xs.drop (i * 3))) (i * 3) us).toArray := ⟨_, rfl⟩
  have hcp2 : ∀ ty dc, (Builtin.copy_ #[30, 30] ty #[.slice (some ⟨g, i * 3, none⟩) (n + 1 - i) dc, .slice (some ⟨vb, 0, none⟩) 1 1]).run Try.prog W1 = .ok (goInt 1) W2 := fun ty dc => by
    have h := run_copy_rowN (P := Try.prog) W1 30 30 ty 50 3 g (i * 3) (n + 1 - i) dc ⟨vb, 0, none⟩ 1 1 _ 50 us Try.underlying30 sizeParts hg1 (by rw [hmin2, hl]) (fun k u hk => by
      rw [Go.WideShapes.add_plain, Nat.zero_add, cell_of_row W1 vb k us.toArray 50 (0, 0) hvb1]; simpa using hk) (by rw [List.size_toArray, hL1, e1]; omega) h1
    rw [hmin2] at h
    rw [h, hW2]; rfl
  have hfin : InsParts W base (.slice (some ⟨g, 0, none⟩) n c) n i xs us (.returned (.slice (some ⟨g, 0, none⟩) (n + 1) c)) W2 := by
    refine ⟨_, rfl, own_of_raw (cur := (lay (lay cur.toList ((i + 1) * 3) (xs.drop (i * 3))) (i * 3) us).toArray) ?_ hbg hroom hcm ?_ ?_, ?_, fun q hq => .inl hq⟩
    · rw [hW2]; exact setRow_heap W1 g _ _ 50 _ hg1
    · rw [List.size_toArray, length_lay _ _ _ (by rw [hL1, e1]; omega), hL1]
    · rw [lay_behind_first _ _ _ _ _ e1.symm e5]
      have e6 : cur.toList.take (i * 3) = xs.take (i * 3) := by rw [← ht, List.take_take, Nat.min_eq_left hin]
      rw [e6, ← List.append_assoc, ← List.append_assoc, List.take_left' (by simp only [List.length_append, List.length_take, hown.1, Nat.min_eq_left hin, e1, e3]), List.append_assoc]
    · rw [hW2]
      exact grown_trans (by rw [hW1]; exact grown_trans (grown_drew (grown_refl _ _)) (grown_setRow _ _ _)) (grown_setRow _ _ _)
  have HF := Lib.hid hfin
  have HC1 := Lib.hid hcp1
  have HC2 := Lib.hid hcp2
  have hin' : ((i : Int) == (n : Int)) = false := by simp; omega
  have b1 : (i : Int) ≤ (n : Int) := by omega
  have b2 : i ≤ c := by omega
  have b3 : ¬ c = i := by omega
  have b4 : ¬ c = i + 1 := by omega
  have hw1 : IntKind.i64.wrap ((i : Int) + 1) = (i : Int) + 1 := by rw [IntKind.wrap_i64]; omega
  have hw0 : (0 : Int) ≤ (i : Int) + 1 := by omega
  have hwn : ((i : Int) + 1).toNat = i + 1 := by omega
  have b5 : (i : Int) ≤ (n : Int) + 1 := by omega
  clear hfin hcp1 hcp2 hg1 hvb1 hL1 hW1 hW2 hmin1 hmin2 e1 e2 e3 e4 e5 hin hown hg ht hcs hcm hbg hvb hl h1 h2
  go_enter Try.func31, Try.ntmps31
  go_wp2_with (simp only [hov])
  go_region_law (refine step_copy_run rfl _ _ 30 30 rfl (.slice (some ⟨g, (i + 1) * 3, none⟩) (n + 1 - (i + 1)) (c - (i + 1))) (.slice (some ⟨g, i * 3, none⟩) (n + 1 - i) (c - i)) (by simp [Act.eval, Act.put]) (by simp [Act.eval, Act.put]) (HC1.out _ _ _) ?_)
  all_goals
    go_wp2_with (refine wpList_copy_run _ rfl _ _ 30 30 rfl (.slice (some ⟨g, i * 3, none⟩) (n + 1 - i) (c - i)) (.slice (some ⟨vb, 0, none⟩) 1 1) (by simp [Act.eval]) (by simp [Act.eval]) (HC2.out _ _) ?_)
    go_ret
    exact HF.out
set_option maxRecDepth 100000 in
set_option maxHeartbeats 2000000 in
theorem insParts_grow (base vb g n i : Nat) (xs us : List Value) (W : World) (hown : W.ownsRow base 50 3 (.slice (some ⟨g, 0, none⟩) n n) n xs) (hi : i < n) (hn : n ≤ 100000) (hb : base ≤ W.heap.size) (hl : us.length = 3)
    (hvb : W.heap[vb]? = some (.cells us.toArray 50 (0, 0))) (h1 : ∀ u ∈ us, u.oneCell' = true) (h2 : ∀ u ∈ xs, u.oneCell' = true) :
    Calls Try.prog 31 #[.slice (some ⟨g, 0, none⟩) n n, .int .i64 (i : Nat), .slice (some ⟨vb, 0, none⟩) 1 1] W (InsParts W base (.slice (some ⟨g, 0, none⟩) n n) n i xs us) := by
  obtain ⟨i0, hi0, hz0, hs0, hb0⟩ := infoParts
  have hgw : g < W.heap.size := (hown.lt g rfl).2
  have hvw : vb < W.heap.size := (Array.getElem?_eq_some_iff.1 hvb).1
  have e1 : i * 3 + us.length = (i + 1) * 3 := by rw [hl, Nat.add_mul, Nat.one_mul]
  have e2 : (xs.drop (i * 3)).length = (n - i) * 3 := by rw [List.length_drop, hown.1, ← Nat.sub_mul]
  have e3 : (i + 1) * 3 + (xs.drop (i * 3)).length = (n + 1) * 3 := by rw [e2, ← Nat.add_mul]; congr 1; omega
  have hin : i * 3 ≤ n * 3 := Nat.mul_le_mul_right _ (by omega)
  have eT : (xs.take (i * 3)).length = i * 3 := by rw [List.length_take, hown.1]; omega
  have hmin1 : Nat.min (n - i) (n + 1 - (i + 1)) = n - i := by simp only [Nat.min_def]; split <;> omega
  have hmin2 : Nat.min 1 (n + 1 - i) = 1 := by simp only [Nat.min_def]; split <;> omega
  have hold : (Builtin.firstCells i0.size i (.slice (some ⟨g, 0, none⟩) i n)).run Try.prog W.drew = .ok (xs.take (i * 3)).toArray W.drew := by
    rw [hs0]
    exact run_firstCells_some (P := Try.prog) W.drew 3 i ⟨g, 0, none⟩ i n (xs.take (i * 3)) eT ((own_take hown i (by omega)).cells (g := g) rfl)
  have hik : i + (n + 1 - i) = n + 1 := by omega
  have hrz := Lib.run_append_grow_zeros (P := Try.prog) W 30 3 30 50 i0 (.agg #[.int .u64 0, .int .i64 0, .int .i64 0]) .i64 .i64 Try.underlying30 Try.underlying3 hi0 hz0 (some ⟨g, 0, none⟩) i n (xs.take (i * 3)) hold (n + 1 - i) (by omega) (by omega) (by omega) (by omega) (by rw [hb0]; omega) (by rw [hb0, hik]; exact growslice_fits (by omega) (by omega))
  rw [hik] at hrz
  obtain ⟨G, hG⟩ : ∃ G, G = grownCap W (n + 1) n 50 := ⟨_, rfl⟩
  have hGn : n + 1 ≤ G := by rw [hG]; exact grownCap_ge W _ _ _
  have hG63 : G ≤ maxLen := by rw [hG]; exact grownCap_le_maxLen W (n + 1) n 50 (by unfold maxLen; omega)
  rw [← hG] at hrz
  obtain ⟨ROW, hROW⟩ : ∃ ROW : Array Value, ROW = (xs.take (i * 3)).toArray ++ Builtin.zeroCells (Value.cells (.agg #[.int .u64 0, .int .i64 0, .int .i64 0])) (n + 1 - i) ++ Builtin.zeroCells (Value.cells (.agg #[.int .u64 0, .int .i64 0, .int .i64 0])) (G - (n + 1)) := ⟨_, rfl⟩
  rw [← hROW] at hrz
  have hzs : (Value.cells (.agg #[.int .u64 0, .int .i64 0, .int .i64 0])).size = 3 := rfl
  have hRl : ROW.size = G * 3 := by
    rw [hROW, Array.size_append, Array.size_append, size_zeroCells, size_zeroCells, List.size_toArray, eT, hzs, ← Nat.add_mul, ← Nat.add_mul]
    congr 1; omega
  have hRt : ROW.toList.take (i * 3) = xs.take (i * 3) := by
    rw [hROW, Array.append_assoc, Array.toList_append, List.take_append_of_le_length (by simp only [eT, Nat.le_refl]), List.take_of_length_le (by simp only [eT, Nat.le_refl])]
  have e4 : (n + 1) * 3 ≤ G * 3 := Nat.mul_le_mul_right _ hGn
  have e5 : (i + 1) * 3 + (xs.drop (i * 3)).length ≤ ROW.toList.length := by rw [e3, Array.length_toList, hRl]; exact e4
  obtain ⟨h, hh⟩ : ∃ h, h = W.heap.size := ⟨_, rfl⟩
  obtain ⟨W1, hW1⟩ : ∃ W1, W1 = W.drew.alloc (.cells ROW 50) := ⟨_, rfl⟩
  rw [← hW1, ← hh] at hrz
  have hg1 : W1.heap[h]? = some (.cells ROW 50 (0, 0)) := by rw [hW1, hh]; exact heap_alloc_new W.drew _
  have hvb1 : W1.heap[vb]? = some (.cells us.toArray 50 (0, 0)) := by rw [hW1, Below.heap_alloc W.drew _ vb hvw]; exact hvb
  have hown1 : W1.ownsRow base 50 3 (.slice (some ⟨g, 0, none⟩) n n) n xs := by
    rw [hW1]
    have h0 : W.drew.ownsRow base 50 3 (.slice (some ⟨g, 0, none⟩) n n) n xs := hown
    exact h0.alloc _
  obtain ⟨W2, hW2⟩ : ∃ W2, W2 = W1.setRow h (lay ROW.toList (i * 3) us).toArray := ⟨_, rfl⟩
  have hL0 : i * 3 + us.length ≤ ROW.toList.length := by rw [e1, Array.length_toList, hRl]; omega
  have hcp2 : ∀ ty dc, (Builtin.copy_ #[30, 30] ty #[.slice (some ⟨h, i * 3, none⟩) (n + 1 - i) dc, .slice (some ⟨vb, 0, none⟩) 1 1]).run Try.prog W1 = .ok (goInt 1) W2 := fun ty dc => by
    have hq := run_copy_rowN (P := Try.prog) W1 30 30 ty 50 3 h (i * 3) (n + 1 - i) dc ⟨vb, 0, none⟩ 1 1 _ 50 us Try.underlying30 sizeParts hg1 (by rw [hmin2, hl]) (fun k u hk => by
      rw [Go.WideShapes.add_plain, Nat.zero_add, cell_of_row W1 vb k us.toArray 50 (0, 0) hvb1]; simpa using hk) (by simpa using hL0) h1
    rw [hmin2] at hq
    rw [hq, hW2]; rfl
  have hg2 : W2.drew.heap[h]? = some (.cells (lay ROW.toList (i * 3) us).toArray 50 (0, 0)) := by rw [hW2]; exact setRow_heap W1 h _ _ 50 _ hg1
  have hown2 : W2.drew.ownsRow base 50 3 (.slice (some ⟨g, 0, none⟩) n n) n xs := by
    have h0 : W2.ownsRow base 50 3 (.slice (some ⟨g, 0, none⟩) n n) n xs := by
      rw [hW2]
      exact hown1.kept (grown_setRow _ _ _) (.inr (by intro e; have h9 : g = h := Option.some.inj e; omega))
    exact h0
  have hL1 : (lay ROW.toList (i * 3) us).length = G * 3 := by rw [length_lay _ _ _ hL0, Array.length_toList, hRl]
  obtain ⟨W3, hW3⟩ : ∃ W3, W3 = W2.drew.setRow h (lay (lay ROW.toList (i * 3) us) ((i + 1) * 3) (xs.drop (i * 3))).toArray := ⟨_, rfl⟩
  have hcp1 : ∀ ty dc sc, (Builtin.copy_ #[30, 30] ty #[.slice (some ⟨h, (i + 1) * 3, none⟩) (n + 1 - (i + 1)) dc, .slice (some ⟨g, i * 3, none⟩) (n - i) sc]).run Try.prog W2.drew = .ok (goInt (n - i : Nat)) W3 := fun ty dc sc => by
    have hq := run_copy_rowN (P := Try.prog) W2.drew 30 30 ty 50 3 h ((i + 1) * 3) (n + 1 - (i + 1)) dc ⟨g, i * 3, none⟩ (n - i) sc _ 50 (xs.drop (i * 3)) Try.underlying30 sizeParts hg2 (by rw [hmin1]; exact e2) (fun k u hk => by
      have hlt : k < (xs.drop (i * 3)).length := (List.getElem?_eq_some_iff.1 hk).1
      rw [e2, Nat.sub_mul] at hlt
      have hx : W2.drew.cell? ⟨g, i * 3 + k, none⟩ = xs[i * 3 + k]? := hown2.cellAt (i * 3 + k) (by omega)
      rw [Go.WideShapes.add_plain, hx, ← hk, List.getElem?_drop]) (by rw [List.size_toArray, hL1, e3]; exact e4) (fun u hu => h2 u (List.mem_of_mem_drop hu))
    rw [hmin1] at hq
    rw [hq, hW3]; rfl
  have hfin : InsParts W base (.slice (some ⟨g, 0, none⟩) n n) n i xs us (.returned (.slice (some ⟨h, 0, none⟩) (n + 1) G)) W3 := by
    refine ⟨_, rfl, own_of_raw (cur := (lay (lay ROW.toList (i * 3) us) ((i + 1) * 3) (xs.drop (i * 3))).toArray) ?_ (by omega) hGn hG63 ?_ ?_, ?_, fun q hq => .inr ?_⟩
    · rw [hW3]; exact setRow_heap W2.drew h _ _ 50 _ hg2
    · rw [List.size_toArray, length_lay _ _ _ (by rw [hL1, e3]; exact e4), hL1]
    · rw [lay_first_behind _ _ _ _ _ e1.symm e5, hRt, ← List.append_assoc, ← List.append_assoc, List.take_left' (by simp only [List.length_append, eT, e1, e3]), List.append_assoc]
    · rw [hW3]
      refine ⟨?_, ?_, ?_, ?_, ?_⟩
      · rw [hW2, hW1]; rfl
      · rw [hW2, hW1]; rfl
      · rw [hW2, hW1]; rfl
      · rw [size_setRow, hW2]; show W.heap.size ≤ (W1.setRow h _).heap.size; rw [size_setRow, hW1]; simp
      · intro k hk _
        rw [setRow_other W2.drew h k _ (by omega), hW2]
        show (W1.setRow h _).heap[k]? = _
        rw [setRow_other W1 h k _ (by omega), hW1, Below.heap_alloc W.drew _ k hk]; rfl
    · have h9 : h = q := Option.some.inj hq
      omega
  have HF := Lib.hid hfin
  have HC1 := Lib.hid hcp1
  have HC2 := Lib.hid hcp2
  have HA := Lib.hid hrz
  have hG9 : G ≤ 9223372036854775807 := by unfold maxLen at hG63; omega
  have hin' : ((i : Int) == (n : Int)) = false := by simp; omega
  have hkk : (n : Int) + 1 - (i : Int) = ((n + 1 - i : Nat) : Int) := by omega
  have HK := Lib.hid hkk
  have b1 : (i : Int) ≤ (n : Int) := by omega
  have b2 : i ≤ n := by omega
  have b3 : ¬ n = i := by omega
  have b4 : ¬ G = i + 1 := by omega
  have b6 : ¬ G = i := by omega
  have b7 : (i : Int) ≤ (n : Int) + 1 := by omega
  have hw1 : IntKind.i64.wrap ((i : Int) + 1) = (i : Int) + 1 := by rw [IntKind.wrap_i64]; omega
  have hw0 : (0 : Int) ≤ (i : Int) + 1 := by omega
  have hwn : ((i : Int) + 1).toNat = i + 1 := by omega
  clear hfin hcp1 hcp2 hrz hkk hg1 hg2 hvb1 hL0 hL1 hW1 hW2 hW3 hmin1 hmin2 e1 e2 e3 e4 e5 eT hin hown hown1 hown2 hvb hl h1 h2 hROW hRt hRl hG hG63 hold hgw hvw hb hh hzs hik
  go_enter Try.func31, Try.ntmps31
  go_wp2_with (first
    | (at_builtin; refine Lib.wpList_append_run _ rfl _ _ 30 3 rfl (.slice (some ⟨g, 0, none⟩) i n) (.int .i64 ((n + 1 - i : Nat) : Int)) (by simp [Act.eval]) (by simp [Act.eval, HK.out]) _ _ HA.out ?_)
    | (refine wpList_copy_run _ rfl _ _ 30 30 rfl (.slice (some ⟨h, i * 3, none⟩) (n + 1 - i) (G - i)) (.slice (some ⟨vb, 0, none⟩) 1 1) (by simp [Act.eval]) (by simp [Act.eval]) (HC2.out _ _) ?_))
  go_region_law (refine step_copy_run rfl _ _ 30 30 rfl (.slice (some ⟨h, (i + 1) * 3, none⟩) (n + 1 - (i + 1)) (G - (i + 1))) (.slice (some ⟨g, i * 3, none⟩) (n - i) (n - i)) (by simp [Act.eval, Act.put]) (by simp [Act.eval, Act.put]) (HC1.out _ _ _) ?_)
  all_goals
    go_wp2
    go_ret
    exact HF.out

theorem insParts_any (base vb n i : Nat) (v : Value) (xs us : List Value) (W : World) (hown : W.ownsRow base 50 3 v n xs) (hi : i ≤ n) (hn : n ≤ 100000) (hb : base ≤ W.heap.size) (hne : v.ownBlock ≠ some vb) (hl : us.length = 3)
    (hvb : W.heap[vb]? = some (.cells us.toArray 50 (0, 0))) (h1 : ∀ u ∈ us, u.oneCell' = true) (h2 : ∀ u ∈ xs, u.oneCell' = true) :
    Calls Try.prog 31 #[v, .int .i64 (i : Nat), .slice (some ⟨vb, 0, none⟩) 1 1] W (InsParts W base v n i xs us) := by
  rcases hown.2 with ⟨rfl, rfl⟩ | ⟨g, c, cur, rfl, hbg, hg, hnc, hcm, hcs, ht⟩
  · obtain rfl : i = 0 := by omega
    obtain rfl : xs = [] := List.eq_nil_of_length_eq_zero (by simpa using hown.1)
    exact insParts_nil base vb us W hb hl hvb h1
  · rcases Nat.lt_or_ge i n with h | h
    · rcases Nat.lt_or_ge n c with h3 | h3
      · exact insParts_room base vb g n c i xs us W hown h hn h3 (fun e => hne (by rw [e]; rfl)) hl hvb h1 h2
      · obtain rfl : c = n := by omega
        exact insParts_grow base vb g c i xs us W hown h hn hb hl hvb h1 h2
    · obtain rfl : i = n := by omega
      exact insParts_end base vb g i c xs us W hown hn hb hl hvb h1

set_option maxRecDepth 100000 in
set_option maxHeartbeats 2000000 in
theorem cloneParts_any (g o k d : Nat) (news : List Value) (W : World) (hl : news.length = k * 3) (hk : k ≤ 100000) (hnews : ∀ j u, news[j]? = some u → W.cell? ((⟨g, o, none⟩ : Addr).add j) = some u) (h1 : ∀ u ∈ news, u.oneCell' = true) :
    Calls Try.prog 27 #[.slice (some ⟨g, o, none⟩) k d] W fun e w' => ∃ v', e = .returned v' ∧ w'.ownsRow W.heap.size 50 3 v' k news ∧ Below W.heap.size W w' := by
  obtain ⟨i0, hi0, hz0, hs0, hb0⟩ := infoParts
  have HS : ∀ ob : Obj, Hid (∀ j u, news[j]? = some u → (W.alloc ob).cell? ((⟨g, o, none⟩ : Addr).add j) = some u) := fun ob j u hj => Lib.cell?_alloc_some _ (hnews j u hj)
  have HO := fun cs => Lib.hid (World.ownsRow_made (base := W.heap.size) (e := 50) (size := 3) W cs 0 (Nat.le_refl _) (Nat.zero_le _))
  have HL := Lib.hid hl
  have hq := Lib.run_eql_slice_nil (P := Try.prog) W 30 50 (some ⟨g, o, none⟩) k d 0 0 Try.underlying30
  clear hnews hl
  go_enter Try.func27, Try.ntmps27
  go_wp2_with (at_builtin; go_must (refine wpList_append_own _ rfl (.tmp 5) (.tmp 6) 30 rfl W.heap.size 50 i0 (.agg #[.int .u64 0, .int .i64 0, .int .i64 0]) 3 24 Try.underlying30 hi0 hz0 hs0 hb0 rfl (by decide) (.slice (some ⟨W.heap.size, 0, none⟩) 0 0) 0 [] rfl ((HO _).out (by rfl)) ⟨g, o, none⟩ k d news rfl HL.out (HS _).out h1 (by unfold maxLen; omega) (by omega) (by simp) ?_); intro v' w1 hown1 hg1 hnil; have HO1 := Lib.hid hown1; have HG := Lib.hid hg1; clear hown1 hg1 hnil)
  go_ret
  exact ⟨_, rfl, by simpa using HO1.out, ((Below.refl _ _).alloc (Nat.le_refl _) _).grown HG.out (by simp) (fun q hq => by have h9 : W.heap.size = q := Option.some.inj hq; omega)⟩
end Go.Proofs.Ythjhfnbcfgkehaa
