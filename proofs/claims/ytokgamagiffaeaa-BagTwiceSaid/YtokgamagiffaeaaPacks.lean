/-
  The library's Delete and Clone, of packets: what a row that somebody owns is behind them. (Written by tools/genPK.py out of the text for items and nodes.)
-/
import Derived.Test.YtokgamagiffaeaaRowOps
import Derived.Test.YtokgamagiffaeaaAppendAny
namespace Go.Proofs.Ytokgamagiffaeaa
open Go.RowKit


theorem infoPacks : ∃ i, Try.prog.info? 38 = some i ∧ i.zero = some (.agg #[.int .i64 0, .int .i64 0, .int .i64 0, .int .i64 0, .int .i64 0, .int .i64 0, .int .i64 0, .int .i64 0, .int .i64 0, .string ⟨#[]⟩, .string ⟨#[]⟩, .string ⟨#[]⟩, .int .i64 0, .int .i64 0, .string ⟨#[]⟩, .slice none 0 0, .bool false, .string ⟨#[]⟩, .int .i64 0, .int .u64 0, .int .u64 0, .int .i64 0, .slice none 0 0, .int .i64 0, .int .i64 0]) ∧ i.size = 25 ∧ i.bytes = 272 := by
  have h : (Try.prog.info? 38).map (fun i => (i.zero, i.size, i.bytes)) = some (some (.agg #[.int .i64 0, .int .i64 0, .int .i64 0, .int .i64 0, .int .i64 0, .int .i64 0, .int .i64 0, .int .i64 0, .int .i64 0, .string ⟨#[]⟩, .string ⟨#[]⟩, .string ⟨#[]⟩, .int .i64 0, .int .i64 0, .string ⟨#[]⟩, .slice none 0 0, .bool false, .string ⟨#[]⟩, .int .i64 0, .int .u64 0, .int .u64 0, .int .i64 0, .slice none 0 0, .int .i64 0, .int .i64 0]), 25, 272) := by kernel_rfl
  obtain ⟨i, hi, hx⟩ := Option.map_eq_some_iff.1 h
  simp only [Prod.mk.injEq] at hx
  exact ⟨i, hi, hx⟩
theorem sizePacks : (Try.prog.info? 38).map (·.size) = some 25 := by kernel_rfl
theorem zeroPacks : ∀ w, (zeroValue 38).run Try.prog w = .ok (.agg #[.int .i64 0, .int .i64 0, .int .i64 0, .int .i64 0, .int .i64 0, .int .i64 0, .int .i64 0, .int .i64 0, .int .i64 0, .string ⟨#[]⟩, .string ⟨#[]⟩, .string ⟨#[]⟩, .int .i64 0, .int .i64 0, .string ⟨#[]⟩, .slice none 0 0, .bool false, .string ⟨#[]⟩, .int .i64 0, .int .u64 0, .int .u64 0, .int .i64 0, .slice none 0 0, .int .i64 0, .int .i64 0]) w := fun _ => by kernel_rfl
theorem clearPacks {W : World} {base g n c : Nat} {xs : List Value} (h : W.ownsRow base 38 25 (.slice (some ⟨g, 0, none⟩) n c) n xs) (ty : TypeId) (k d : Nat) (hk : n + k ≤ c) (h0 : 0 < k) :
    ∃ w', (Builtin.clear_ #[52] ty #[.slice (some ⟨g, n * 25, none⟩) k d]).run Try.prog W = .ok (.tuple #[]) w' ∧ w'.ownsRow base 38 25 (.slice (some ⟨g, 0, none⟩) n c) n xs ∧ W.grownBy w' (some g) := by
  obtain ⟨cur, hg, hnc, hcm, hcs, ht, hb⟩ := own_raw h
  have hz : (Value.cells (.agg #[.int .i64 0, .int .i64 0, .int .i64 0, .int .i64 0, .int .i64 0, .int .i64 0, .int .i64 0, .int .i64 0, .int .i64 0, .string ⟨#[]⟩, .string ⟨#[]⟩, .string ⟨#[]⟩, .int .i64 0, .int .i64 0, .string ⟨#[]⟩, .slice none 0 0, .bool false, .string ⟨#[]⟩, .int .i64 0, .int .u64 0, .int .u64 0, .int .i64 0, .slice none 0 0, .int .i64 0, .int .i64 0])).size = 25 := rfl
  have hone : ∀ u ∈ (Value.cells (.agg #[.int .i64 0, .int .i64 0, .int .i64 0, .int .i64 0, .int .i64 0, .int .i64 0, .int .i64 0, .int .i64 0, .int .i64 0, .string ⟨#[]⟩, .string ⟨#[]⟩, .string ⟨#[]⟩, .int .i64 0, .int .i64 0, .string ⟨#[]⟩, .slice none 0 0, .bool false, .string ⟨#[]⟩, .int .i64 0, .int .u64 0, .int .u64 0, .int .i64 0, .slice none 0 0, .int .i64 0, .int .i64 0])), u.oneCell' = true := by
    intro u hu
    exact (Array.all_eq_true_iff_forall_mem.1 (by kernel_rfl : (Value.cells (.agg #[.int .i64 0, .int .i64 0, .int .i64 0, .int .i64 0, .int .i64 0, .int .i64 0, .int .i64 0, .int .i64 0, .int .i64 0, .string ⟨#[]⟩, .string ⟨#[]⟩, .string ⟨#[]⟩, .int .i64 0, .int .i64 0, .string ⟨#[]⟩, .slice none 0 0, .bool false, .string ⟨#[]⟩, .int .i64 0, .int .u64 0, .int .u64 0, .int .i64 0, .slice none 0 0, .int .i64 0, .int .i64 0])).all (·.oneCell') = true)) u hu
  have hr := run_clear_rowN W 52 38 ty (.agg #[.int .i64 0, .int .i64 0, .int .i64 0, .int .i64 0, .int .i64 0, .int .i64 0, .int .i64 0, .int .i64 0, .int .i64 0, .string ⟨#[]⟩, .string ⟨#[]⟩, .string ⟨#[]⟩, .int .i64 0, .int .i64 0, .string ⟨#[]⟩, .slice none 0 0, .bool false, .string ⟨#[]⟩, .int .i64 0, .int .u64 0, .int .u64 0, .int .i64 0, .slice none 0 0, .int .i64 0, .int .i64 0]) Try.underlying52 zeroPacks hone g (n * 25) k d cur 38 h0 hg (by rw [hz, hcs, ← Nat.add_mul]; exact Nat.mul_le_mul_right _ hk)
  refine ⟨_, hr, own_of_raw (setRow_heap W g cur _ 38 _ hg) hb hnc hcm ?_ ?_, grown_setRow _ _ _⟩
  · have e1 : (Builtin.zeroCells (Value.cells (.agg #[.int .i64 0, .int .i64 0, .int .i64 0, .int .i64 0, .int .i64 0, .int .i64 0, .int .i64 0, .int .i64 0, .int .i64 0, .string ⟨#[]⟩, .string ⟨#[]⟩, .string ⟨#[]⟩, .int .i64 0, .int .i64 0, .string ⟨#[]⟩, .slice none 0 0, .bool false, .string ⟨#[]⟩, .int .i64 0, .int .u64 0, .int .u64 0, .int .i64 0, .slice none 0 0, .int .i64 0, .int .i64 0])) k).toList.length = k * 25 := by rw [Array.length_toList, size_zeroCells]; rfl
    have e2 : (n + k) * 25 ≤ c * 25 := Nat.mul_le_mul_right _ hk
    rw [Nat.add_mul] at e2
    simp only [List.size_toArray, List.length_append, List.length_take, List.length_drop, Array.length_toList, e1, hcs]
    omega
  · have e2 : n * 25 ≤ c * 25 := Nat.mul_le_mul_right _ hnc
    simp only [List.append_assoc]
    rw [List.take_append_of_le_length (by rw [List.length_take, Array.length_toList, hcs]; omega), List.take_take, Nat.min_self, ht]

set_option maxRecDepth 100000 in
set_option maxHeartbeats 2000000 in
theorem delPacks_any (g n c i j base : Nat) (xs : List Value) (W : World) (hown : W.ownsRow base 38 25 (.slice (some ⟨g, 0, none⟩) n c) n xs) (hij : i < j) (hj : j ≤ n) (hn : n ≤ 100000) (h1 : ∀ u ∈ xs, u.oneCell' = true) :
    Calls Try.prog 20 #[.slice (some ⟨g, 0, none⟩) n c, .int .i64 (i : Nat), .int .i64 (j : Nat)] W fun e w' => e = .returned (.slice (some ⟨g, 0, none⟩) (i + (n - j)) c) ∧
      w'.ownsRow base 38 25 (.slice (some ⟨g, 0, none⟩) (i + (n - j)) c) (i + (n - j)) (xs.take (i * 25) ++ xs.drop (j * 25)) ∧ W.grownBy w' (some g) := by
  obtain ⟨i0, hi0, hz0, hs0, hb0⟩ := infoPacks
  obtain ⟨m, hm⟩ : ∃ m, i + (n - j) = m := ⟨_, rfl⟩
  have hc : n ≤ c ∧ c ≤ 9223372036854775807 := by
    obtain ⟨_, _, a, b, _⟩ := own_raw hown
    unfold maxLen at b
    exact ⟨a, by omega⟩
  obtain ⟨hnc, hcm⟩ := hc
  have HO := Lib.hid hown
  have hd : W.drew.ownsRow base 38 25 (.slice (some ⟨g, 0, none⟩) i c) i (xs.take (i * 25)) := own_take hown i (by omega)
  have hl : (xs.drop (j * 25)).length = (n - j) * 25 := by rw [List.length_drop, hown.1, ← Nat.sub_mul]
  have hone : ∀ u ∈ xs.drop (j * 25), u.oneCell' = true := fun u hu => h1 u (List.mem_of_mem_drop hu)
  have hij' : ((i : Int) == (j : Int)) = false := by simp; omega
  have b1 : (i : Int) ≤ (j : Int) := by omega
  have b2 : (j : Int) ≤ (n : Int) := by omega
  have b3 : j ≤ n := hj
  have b4 : i ≤ c := by omega
  have b5 : m < n := by omega
  have b6 : m ≤ c := by omega
  have b7 : ¬ c = m := by omega
  rw [hm]
  by_cases hcj : c = j
  · have hnil : xs.drop (j * 25) = [] := List.eq_nil_of_length_eq_zero (by rw [hl, show n - j = 0 by omega, Nat.zero_mul])
    obtain ⟨w1, hr, ho, hgr⟩ := run_append_fits (P := Try.prog) W.drew base 52 52 38 i0 25 Try.underlying52 hi0 hs0 g i c _ hd ⟨g, 0, none⟩ 0 0 (xs.drop (j * 25)) (by rw [hnil]; rfl) (by intro k u hk; rw [hnil] at hk; cases hk) hone (by omega)
    have e0 : i + 0 = m := by omega
    rw [e0] at hr ho
    obtain ⟨w2, hr2, ho2, hgr2⟩ := clearPacks ho 52 (n - m) (c - m) (by omega) (by omega)
    have HG : Hid (W.grownBy w2 (some g)) := grown_trans (grown_trans (grown_drew (grown_refl _ _)) hgr) hgr2
    have HO2 := Lib.hid ho2
    have HR := Lib.hid hr
    have HR2 := Lib.hid hr2
    clear hr hr2 ho ho2 hgr hgr2 hd hl hone h1 hown e0 hm
    subst hcj
    go_enter Try.func20, Try.ntmps20
    go_wp2
    go_region_law (refine step_append_run rfl _ _ 52 52 rfl (.slice (some ⟨g, 0, none⟩) i c) (.slice (some ⟨g, 0, none⟩) 0 0) (by simp [Act.eval, Act.put]) (by simp [Act.eval, Act.put]) HR.out ?_)
    all_goals
      go_wp2_with (refine wpList_clear_run _ rfl _ 52 rfl (.slice (some ⟨g, m * 25, none⟩) (n - m) (c - m)) (by simp [Act.eval]) HR2.out ?_)
      go_ret
      exact ⟨rfl, HO2.out, HG.out⟩
  · obtain ⟨w1, hr, ho, hgr⟩ := run_append_fits (P := Try.prog) W.drew base 52 52 38 i0 25 Try.underlying52 hi0 hs0 g i c _ hd ⟨g, j * 25, none⟩ (n - j) (c - j) (xs.drop (j * 25)) hl (by
      intro k u hk
      have hlt : k < (xs.drop (j * 25)).length := (List.getElem?_eq_some_iff.1 hk).1
      have hjn : j * 25 ≤ n * 25 := Nat.mul_le_mul_right _ hj
      rw [hl, Nat.sub_mul] at hlt
      have hx : W.drew.cell? ⟨g, j * 25 + k, none⟩ = xs[j * 25 + k]? := hown.cellAt (j * 25 + k) (by omega)
      rw [Go.WideShapes.add_plain, hx, ← hk, List.getElem?_drop]) hone (by omega)
    rw [hm] at hr ho
    obtain ⟨w2, hr2, ho2, hgr2⟩ := clearPacks ho 52 (n - m) (c - m) (by omega) (by omega)
    have HG : Hid (W.grownBy w2 (some g)) := grown_trans (grown_trans (grown_drew (grown_refl _ _)) hgr) hgr2
    have HO2 := Lib.hid ho2
    have HR := Lib.hid hr
    have HR2 := Lib.hid hr2
    clear hr hr2 ho ho2 hgr hgr2 hd hl hone h1 hown hm
    go_enter Try.func20, Try.ntmps20
    go_wp2
    go_region_law (refine step_append_run rfl _ _ 52 52 rfl (.slice (some ⟨g, 0, none⟩) i c) (.slice (some ⟨g, j * 25, none⟩) (n - j) (c - j)) (by simp [Act.eval, Act.put]) (by simp [Act.eval, Act.put]) HR.out ?_)
    all_goals
      go_wp2_with (refine wpList_clear_run _ rfl _ 52 rfl (.slice (some ⟨g, m * 25, none⟩) (n - m) (c - m)) (by simp [Act.eval]) HR2.out ?_)
      go_ret
      exact ⟨rfl, HO2.out, HG.out⟩
set_option maxRecDepth 100000 in
set_option maxHeartbeats 2000000 in
theorem clonePacks_any (g o k d : Nat) (news : List Value) (W : World) (hl : news.length = k * 25) (hk : k ≤ 100000) (hnews : ∀ j u, news[j]? = some u → W.cell? ((⟨g, o, none⟩ : Addr).add j) = some u) (h1 : ∀ u ∈ news, u.oneCell' = true) :
    Calls Try.prog 25 #[.slice (some ⟨g, o, none⟩) k d] W fun e w' => ∃ v', e = .returned v' ∧ w'.ownsRow W.heap.size 38 25 v' k news ∧ Below W.heap.size W w' := by
  obtain ⟨i0, hi0, hz0, hs0, hb0⟩ := infoPacks
  have HS : ∀ ob : Obj, Hid (∀ j u, news[j]? = some u → (W.alloc ob).cell? ((⟨g, o, none⟩ : Addr).add j) = some u) := fun ob j u hj => Lib.cell?_alloc_some _ (hnews j u hj)
  have HO := fun cs => Lib.hid (World.ownsRow_made (base := W.heap.size) (e := 38) (size := 25) W cs 0 (Nat.le_refl _) (Nat.zero_le _))
  have HL := Lib.hid hl
  have hq := Lib.run_eql_slice_nil (P := Try.prog) W 52 38 (some ⟨g, o, none⟩) k d 0 0 Try.underlying52
  clear hnews hl
  go_enter Try.func25, Try.ntmps25
  go_wp2_with (at_builtin; go_must (refine wpList_append_own _ rfl (.tmp 5) (.tmp 6) 52 rfl W.heap.size 38 i0 (.agg #[.int .i64 0, .int .i64 0, .int .i64 0, .int .i64 0, .int .i64 0, .int .i64 0, .int .i64 0, .int .i64 0, .int .i64 0, .string ⟨#[]⟩, .string ⟨#[]⟩, .string ⟨#[]⟩, .int .i64 0, .int .i64 0, .string ⟨#[]⟩, .slice none 0 0, .bool false, .string ⟨#[]⟩, .int .i64 0, .int .u64 0, .int .u64 0, .int .i64 0, .slice none 0 0, .int .i64 0, .int .i64 0]) 25 272 Try.underlying52 hi0 hz0 hs0 hb0 rfl (by decide) (.slice (some ⟨W.heap.size, 0, none⟩) 0 0) 0 [] rfl ((HO _).out (by rfl)) ⟨g, o, none⟩ k d news rfl HL.out (HS _).out h1 (by unfold maxLen; omega) (by omega) (by simp) ?_); intro v' w1 hown1 hg1 hnil; have HO1 := Lib.hid hown1; have HG := Lib.hid hg1; clear hown1 hg1 hnil)
  go_ret
  exact ⟨_, rfl, by simpa using HO1.out, ((Below.refl _ _).alloc (Nat.le_refl _) _).grown HG.out (by simp) (fun q hq => by have h9 : W.heap.size = q := Option.some.inj hq; omega)⟩
end Go.Proofs.Ytokgamagiffaeaa
