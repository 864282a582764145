/-
  The library's Delete and Clone, of packets: what a row that somebody owns is behind them. (Written by tools/genPK.py out of the text for items and nodes.)
-/
import Derived.Test.YtfemdfidfomchaaRowOps
import Derived.Test.YtfemdfidfomchaaAppendAny
namespace Go.Proofs.Ytfemdfidfomchaa
open Go.RowKit


theorem infoPacks : ∃ i, Try.prog.info? 53 = some i ∧ i.zero = some (.agg #[.int .i64 0, .int .i64 0, .int .i64 0, .int .i64 0, .int .i64 0, .int .i64 0, .int .i64 0, .int .i64 0, .int .i64 0, .string ⟨#[]⟩, .string ⟨#[]⟩, .string ⟨#[]⟩, .int .i64 0, .int .i64 0, .string ⟨#[]⟩, .slice none 0 0, .bool false, .string ⟨#[]⟩, .int .i64 0, .int .u64 0, .int .u64 0, .int .i64 0, .slice none 0 0, .int .i64 0, .int .i64 0]) ∧ i.size = 25 ∧ i.bytes = 272 := by
  have h : (Try.prog.info? 53).map (fun i => (i.zero, i.size, i.bytes)) = some (some (.agg #[.int .i64 0, .int .i64 0, .int .i64 0, .int .i64 0, .int .i64 0, .int .i64 0, .int .i64 0, .int .i64 0, .int .i64 0, .string ⟨#[]⟩, .string ⟨#[]⟩, .string ⟨#[]⟩, .int .i64 0, .int .i64 0, .string ⟨#[]⟩, .slice none 0 0, .bool false, .string ⟨#[]⟩, .int .i64 0, .int .u64 0, .int .u64 0, .int .i64 0, .slice none 0 0, .int .i64 0, .int .i64 0]), 25, 272) := by kernel_rfl
  obtain ⟨i, hi, hx⟩ := Option.map_eq_some_iff.1 h
  simp only [Prod.mk.injEq] at hx
  exact ⟨i, hi, hx⟩
theorem sizePacks : (Try.prog.info? 53).map (·.size) = some 25 := by kernel_rfl
theorem zeroPacks : ∀ w, (zeroValue 53).run Try.prog w = .ok (.agg #[.int .i64 0, .int .i64 0, .int .i64 0, .int .i64 0, .int .i64 0, .int .i64 0, .int .i64 0, .int .i64 0, .int .i64 0, .string ⟨#[]⟩, .string ⟨#[]⟩, .string ⟨#[]⟩, .int .i64 0, .int .i64 0, .string ⟨#[]⟩, .slice none 0 0, .bool false, .string ⟨#[]⟩, .int .i64 0, .int .u64 0, .int .u64 0, .int .i64 0, .slice none 0 0, .int .i64 0, .int .i64 0]) w := fun _ => by kernel_rfl
theorem clearPacks {W : World} {base g n c : Nat} {xs : List Value} (h : W.ownsRow base 53 25 (.slice (some ⟨g, 0, none⟩) n c) n xs) (ty : TypeId) (k d : Nat) (hk : n + k ≤ c) (h0 : 0 < k) :
    ∃ w', (Builtin.clear_ #[28] ty #[.slice (some ⟨g, n * 25, none⟩) k d]).run Try.prog W = .ok (.tuple #[]) w' ∧ w'.ownsRow base 53 25 (.slice (some ⟨g, 0, none⟩) n c) n xs ∧ W.grownBy w' (some g) := by
  obtain ⟨cur, hg, hnc, hcm, hcs, ht, hb⟩ := own_raw h
  have hz : (Value.cells (.agg #[.int .i64 0, .int .i64 0, .int .i64 0, .int .i64 0, .int .i64 0, .int .i64 0, .int .i64 0, .int .i64 0, .int .i64 0, .string ⟨#[]⟩, .string ⟨#[]⟩, .string ⟨#[]⟩, .int .i64 0, .int .i64 0, .string ⟨#[]⟩, .slice none 0 0, .bool false, .string ⟨#[]⟩, .int .i64 0, .int .u64 0, .int .u64 0, .int .i64 0, .slice none 0 0, .int .i64 0, .int .i64 0])).size = 25 := rfl
  have hone : ∀ u ∈ (Value.cells (.agg #[.int .i64 0, .int .i64 0, .int .i64 0, .int .i64 0, .int .i64 0, .int .i64 0, .int .i64 0, .int .i64 0, .int .i64 0, .string ⟨#[]⟩, .string ⟨#[]⟩, .string ⟨#[]⟩, .int .i64 0, .int .i64 0, .string ⟨#[]⟩, .slice none 0 0, .bool false, .string ⟨#[]⟩, .int .i64 0, .int .u64 0, .int .u64 0, .int .i64 0, .slice none 0 0, .int .i64 0, .int .i64 0])), u.oneCell' = true := by
    intro u hu
    exact (Array.all_eq_true_iff_forall_mem.1 (by kernel_rfl : (Value.cells (.agg #[.int .i64 0, .int .i64 0, .int .i64 0, .int .i64 0, .int .i64 0, .int .i64 0, .int .i64 0, .int .i64 0, .int .i64 0, .string ⟨#[]⟩, .string ⟨#[]⟩, .string ⟨#[]⟩, .int .i64 0, .int .i64 0, .string ⟨#[]⟩, .slice none 0 0, .bool false, .string ⟨#[]⟩, .int .i64 0, .int .u64 0, .int .u64 0, .int .i64 0, .slice none 0 0, .int .i64 0, .int .i64 0])).all (·.oneCell') = true)) u hu
  have hr := run_clear_rowN W 28 53 ty (.agg #[.int .i64 0, .int .i64 0, .int .i64 0, .int .i64 0, .int .i64 0, .int .i64 0, .int .i64 0, .int .i64 0, .int .i64 0, .string ⟨#[]⟩, .string ⟨#[]⟩, .string ⟨#[]⟩, .int .i64 0, .int .i64 0, .string ⟨#[]⟩, .slice none 0 0, .bool false, .string ⟨#[]⟩, .int .i64 0, .int .u64 0, .int .u64 0, .int .i64 0, .slice none 0 0, .int .i64 0, .int .i64 0]) Try.underlying28 zeroPacks hone g (n * 25) k d cur 53 h0 hg (by rw [hz, hcs, ← Nat.add_mul]; exact Nat.mul_le_mul_right _ hk)
  refine ⟨_, hr, own_of_raw (setRow_heap W g cur _ 53 _ hg) hb hnc hcm ?_ ?_, grown_setRow _ _ _⟩
  · have e1 : (Builtin.zeroCells (Value.cells (.agg #[.int .i64 0, .int .i64 0, .int .i64 0, .int .i64 0, .int .i64 0, .int .i64 0, .int .i64 0, .int .i64 0, .int .i64 0, .string ⟨#[]⟩, .string ⟨#[]⟩, .string ⟨#[]⟩, .int .i64 0, .int .i64 0, .string ⟨#[]⟩, .slice none 0 0, .bool false, .string ⟨#[]⟩, .int .i64 0, .int .u64 0, .int .u64 0, .int .i64 0, .slice none 0 0, .int .i64 0, .int .i64 0])) k).toList.length = k * 25 := by rw [Array.length_toList, size_zeroCells]; rfl
    have e2 : (n + k) * 25 ≤ c * 25 := Nat.mul_le_mul_right _ hk
    rw [Nat.add_mul] at e2
    simp only [List.size_toArray, List.length_append, List.length_take, List.length_drop, Array.length_toList, e1, hcs]
    omega
  · have e2 : n * 25 ≤ c * 25 := Nat.mul_le_mul_right _ hnc
    simp only [List.append_assoc]
    rw [List.take_append_of_le_length (by rw [List.length_take, Array.length_toList, hcs]; omega), List.take_take, Nat.min_self, ht]

end Go.Proofs.Ytfemdfidfomchaa
