/-
  The library's Delete, of what was kept: what a row that somebody owns is behind it. (Written by tools/genLKDel.py out of the text for packets.)
-/
import Derived.Test.YtfemdfidfomchaaLinkKeep
namespace Go.Proofs.Ytfemdfidfomchaa
open Go.RowKit

theorem infoEarly : ∃ i, Try.prog.info? 110 = some i ∧ i.zero = some (.agg lk_zk) ∧ i.size = 22 ∧ i.bytes = 248 := by
  have h : (Try.prog.info? 110).map (fun i => (i.zero, i.size, i.bytes)) = some (some (.agg lk_zk), 22, 248) := by kernel_rfl
  obtain ⟨i, hi, hx⟩ := Option.map_eq_some_iff.1 h
  simp only [Prod.mk.injEq] at hx
  exact ⟨i, hi, hx⟩
theorem sizeEarly : (Try.prog.info? 110).map (·.size) = some 22 := by kernel_rfl
theorem zeroEarly : ∀ w, (zeroValue 110).run Try.prog w = .ok (.agg lk_zk) w := fun _ => by kernel_rfl
theorem clearEarly {W : World} {base g n c : Nat} {xs : List Value} (h : W.ownsRow base 110 22 (.slice (some ⟨g, 0, none⟩) n c) n xs) (ty : TypeId) (k d : Nat) (hk : n + k ≤ c) (h0 : 0 < k) :
    ∃ w', (Builtin.clear_ #[74] ty #[.slice (some ⟨g, n * 22, none⟩) k d]).run Try.prog W = .ok (.tuple #[]) w' ∧ w'.ownsRow base 110 22 (.slice (some ⟨g, 0, none⟩) n c) n xs ∧ W.grownBy w' (some g) := by
  obtain ⟨cur, hg, hnc, hcm, hcs, ht, hb⟩ := own_raw h
  have hz : (Value.cells (.agg lk_zk)).size = 22 := rfl
  have hone : ∀ u ∈ (Value.cells (.agg lk_zk)), u.oneCell' = true := by
    intro u hu
    exact (Array.all_eq_true_iff_forall_mem.1 (by kernel_rfl : (Value.cells (.agg lk_zk)).all (·.oneCell') = true)) u hu
  have hr := run_clear_rowN W 74 110 ty (.agg lk_zk) Try.underlying74 zeroEarly hone g (n * 22) k d cur 110 h0 hg (by rw [hz, hcs, ← Nat.add_mul]; exact Nat.mul_le_mul_right _ hk)
  refine ⟨_, hr, own_of_raw (setRow_heap W g cur _ 110 _ hg) hb hnc hcm ?_ ?_, grown_setRow _ _ _⟩
  · have e1 : (Builtin.zeroCells (Value.cells (.agg lk_zk)) k).toList.length = k * 22 := by rw [Array.length_toList, size_zeroCells]; rfl
    have e2 : (n + k) * 22 ≤ c * 22 := Nat.mul_le_mul_right _ hk
    rw [Nat.add_mul] at e2
    simp only [List.size_toArray, List.length_append, List.length_take, List.length_drop, Array.length_toList, e1, hcs]
    omega
  · have e2 : n * 22 ≤ c * 22 := Nat.mul_le_mul_right _ hnc
    simp only [List.append_assoc]
    rw [List.take_append_of_le_length (by rw [List.length_take, Array.length_toList, hcs]; omega), List.take_take, Nat.min_self, ht]

set_option maxRecDepth 100000 in
set_option maxHeartbeats 2000000 in
theorem delEarly_any (g n c i j base : Nat) (xs : List Value) (W : World) (hown : W.ownsRow base 110 22 (.slice (some ⟨g, 0, none⟩) n c) n xs) (hij : i < j) (hj : j ≤ n) (hn : n ≤ 100000) (h1 : ∀ u ∈ xs, u.oneCell' = true) :
    Calls Try.prog 69 #[.slice (some ⟨g, 0, none⟩) n c, .int .i64 (i : Nat), .int .i64 (j : Nat)] W fun e w' => e = .returned (.slice (some ⟨g, 0, none⟩) (i + (n - j)) c) ∧
      w'.ownsRow base 110 22 (.slice (some ⟨g, 0, none⟩) (i + (n - j)) c) (i + (n - j)) (xs.take (i * 22) ++ xs.drop (j * 22)) ∧ W.grownBy w' (some g) := by
  obtain ⟨i0, hi0, hz0, hs0, hb0⟩ := infoEarly
  obtain ⟨m, hm⟩ : ∃ m, i + (n - j) = m := ⟨_, rfl⟩
  have hc : n ≤ c ∧ c ≤ 9223372036854775807 := by
    obtain ⟨_, _, a, b, _⟩ := own_raw hown
    unfold maxLen at b
    exact ⟨a, by omega⟩
  obtain ⟨hnc, hcm⟩ := hc
  have HO := Lib.hid hown
  have hd : W.drew.ownsRow base 110 22 (.slice (some ⟨g, 0, none⟩) i c) i (xs.take (i * 22)) := own_take hown i (by omega)
  have hl : (xs.drop (j * 22)).length = (n - j) * 22 := by rw [List.length_drop, hown.1, ← Nat.sub_mul]
  have hone : ∀ u ∈ xs.drop (j * 22), u.oneCell' = true := fun u hu => h1 u (List.mem_of_mem_drop hu)
  have hij' : ((i : Int) == (j : Int)) = false := by simp; omega
  have b1 : (i : Int) ≤ (j : Int) := by omega
  have b2 : (j : Int) ≤ (n : Int) := by omega
  have b3 : j ≤ n := hj
  have b4 : i ≤ c := by omega
  have b5 : m < n := by omega
  have b6 : m ≤ c := by omega
  have b7 : ¬ c = m := by omega
  rw [hm]
  by_cases hcj : c = j
  · have hnil : xs.drop (j * 22) = [] := List.eq_nil_of_length_eq_zero (by rw [hl, show n - j = 0 by omega, Nat.zero_mul])
    obtain ⟨w1, hr, ho, hgr⟩ := run_append_fits (P := Try.prog) W.drew base 74 74 110 i0 22 Try.underlying74 hi0 hs0 g i c _ hd ⟨g, 0, none⟩ 0 0 (xs.drop (j * 22)) (by rw [hnil]; rfl) (by intro k u hk; rw [hnil] at hk; cases hk) hone (by omega)
    have e0 : i + 0 = m := by omega
    rw [e0] at hr ho
    obtain ⟨w2, hr2, ho2, hgr2⟩ := clearEarly ho 74 (n - m) (c - m) (by omega) (by omega)
    have HG : Hid (W.grownBy w2 (some g)) := grown_trans (grown_trans (grown_drew (grown_refl _ _)) hgr) hgr2
    have HO2 := Lib.hid ho2
    have HR := Lib.hid hr
    have HR2 := Lib.hid hr2
    clear hr hr2 ho ho2 hgr hgr2 hd hl hone h1 hown e0 hm
    subst hcj
    go_enter Try.func69, Try.ntmps69
    go_wp2
    go_region_law (refine step_append_run rfl _ _ 74 74 rfl (.slice (some ⟨g, 0, none⟩) i c) (.slice (some ⟨g, 0, none⟩) 0 0) (by simp [Act.eval, Act.put]) (by simp [Act.eval, Act.put]) HR.out ?_)
    all_goals
      go_wp2_with (refine wpList_clear_run _ rfl _ 74 rfl (.slice (some ⟨g, m * 22, none⟩) (n - m) (c - m)) (by simp [Act.eval]) HR2.out ?_)
      go_ret
      exact ⟨rfl, HO2.out, HG.out⟩
  · obtain ⟨w1, hr, ho, hgr⟩ := run_append_fits (P := Try.prog) W.drew base 74 74 110 i0 22 Try.underlying74 hi0 hs0 g i c _ hd ⟨g, j * 22, none⟩ (n - j) (c - j) (xs.drop (j * 22)) hl (by
      intro k u hk
      have hlt : k < (xs.drop (j * 22)).length := (List.getElem?_eq_some_iff.1 hk).1
      have hjn : j * 22 ≤ n * 22 := Nat.mul_le_mul_right _ hj
      rw [hl, Nat.sub_mul] at hlt
      have hx : W.drew.cell? ⟨g, j * 22 + k, none⟩ = xs[j * 22 + k]? := hown.cellAt (j * 22 + k) (by omega)
      rw [Go.WideShapes.add_plain, hx, ← hk, List.getElem?_drop]) hone (by omega)
    rw [hm] at hr ho
    obtain ⟨w2, hr2, ho2, hgr2⟩ := clearEarly ho 74 (n - m) (c - m) (by omega) (by omega)
    have HG : Hid (W.grownBy w2 (some g)) := grown_trans (grown_trans (grown_drew (grown_refl _ _)) hgr) hgr2
    have HO2 := Lib.hid ho2
    have HR := Lib.hid hr
    have HR2 := Lib.hid hr2
    clear hr hr2 ho ho2 hgr hgr2 hd hl hone h1 hown hm
    go_enter Try.func69, Try.ntmps69
    go_wp2
    go_region_law (refine step_append_run rfl _ _ 74 74 rfl (.slice (some ⟨g, 0, none⟩) i c) (.slice (some ⟨g, j * 22, none⟩) (n - j) (c - j)) (by simp [Act.eval, Act.put]) (by simp [Act.eval, Act.put]) HR.out ?_)
    all_goals
      go_wp2_with (refine wpList_clear_run _ rfl _ 74 rfl (.slice (some ⟨g, m * 22, none⟩) (n - m) (c - m)) (by simp [Act.eval]) HR2.out ?_)
      go_ret
      exact ⟨rfl, HO2.out, HG.out⟩
end Go.Proofs.Ytfemdfidfomchaa
