/-
  Package letter's Name, walked: a kind's name, or none.
-/
import Derived.Test.YtbnmddopgbhapaaGreatLetLetter
namespace Go.Proofs.YtbnmddopgbhapaaGreat
open Go.RowKit

def nameList : List ByteArray := [⟨#[]⟩, ⟨#[97, 115, 107]⟩, ⟨#[116, 111, 108, 100]⟩, ⟨#[108, 111, 97, 100]⟩, ⟨#[108, 111, 97, 100, 115]⟩, ⟨#[108, 111, 99, 107]⟩, ⟨#[108, 111, 99, 107, 101, 100]⟩, ⟨#[117, 110, 108, 111, 99, 107]⟩, ⟨#[103, 105, 118, 101]⟩, ⟨#[103, 97, 118, 101]⟩, ⟨#[111, 102, 102, 101, 114]⟩, ⟨#[97, 99, 99, 101, 112, 116]⟩, ⟨#[99, 104, 117, 110, 107]⟩, ⟨#[103, 111, 116]⟩, ⟨#[99, 111, 109, 109, 105, 116]⟩, ⟨#[100, 111, 110, 101]⟩, ⟨#[100, 114, 111, 112]⟩]
abbrev NC : Array Value := #[.string ⟨#[]⟩, .string ⟨#[97, 115, 107]⟩, .string ⟨#[116, 111, 108, 100]⟩, .string ⟨#[108, 111, 97, 100]⟩, .string ⟨#[108, 111, 97, 100, 115]⟩, .string ⟨#[108, 111, 99, 107]⟩, .string ⟨#[108, 111, 99, 107, 101, 100]⟩, .string ⟨#[117, 110, 108, 111, 99, 107]⟩, .string ⟨#[103, 105, 118, 101]⟩, .string ⟨#[103, 97, 118, 101]⟩, .string ⟨#[111, 102, 102, 101, 114]⟩, .string ⟨#[97, 99, 99, 101, 112, 116]⟩, .string ⟨#[99, 104, 117, 110, 107]⟩, .string ⟨#[103, 111, 116]⟩, .string ⟨#[99, 111, 109, 109, 105, 116]⟩, .string ⟨#[100, 111, 110, 101]⟩, .string ⟨#[100, 114, 111, 112]⟩]
abbrev NZ : Array Value := #[.string ⟨#[]⟩, .string ⟨#[]⟩, .string ⟨#[]⟩, .string ⟨#[]⟩, .string ⟨#[]⟩, .string ⟨#[]⟩, .string ⟨#[]⟩, .string ⟨#[]⟩, .string ⟨#[]⟩, .string ⟨#[]⟩, .string ⟨#[]⟩, .string ⟨#[]⟩, .string ⟨#[]⟩, .string ⟨#[]⟩, .string ⟨#[]⟩, .string ⟨#[]⟩, .string ⟨#[]⟩]
def nameT (k : Int) : ByteArray := if 0 ≤ k ∧ k < 17 then nameList.getD k.toNat ByteArray.empty else ByteArray.empty
theorem nc_at (j : Nat) (h : j < 17) : NC[j]? = some (.string (nameList.getD j ByteArray.empty)) := by
  have hc : j = 0 ∨ j = 1 ∨ j = 2 ∨ j = 3 ∨ j = 4 ∨ j = 5 ∨ j = 6 ∨ j = 7 ∨ j = 8 ∨ j = 9 ∨ j = 10 ∨ j = 11 ∨ j = 12 ∨ j = 13 ∨ j = 14 ∨ j = 15 ∨ j = 16 := by omega
  rcases hc with rfl | rfl | rfl | rfl | rfl | rfl | rfl | rfl | rfl | rfl | rfl | rfl | rfl | rfl | rfl | rfl | rfl <;> rfl
set_option maxRecDepth 20000 in
set_option maxHeartbeats 2000000 in
theorem name_any_ (k : Int) (W : World) (b0 : -9223372036854775808 ≤ k) (b1 : k ≤ 9223372036854775807) :
    Calls Tryz.prog 16 #[.int .i64 k] W fun e w' => e = .returned (.string (nameT k)) ∧ Below W.heap.size W w' := by
  have hg : (W.alloc (.cells NZ 75)).heap[W.heap.size]? = some (.cells NZ 75) := heap_alloc_new W _
  have hsz : (Tryz.prog.info? 75).map (·.size) = some NC.size := by kernel_rfl
  have hold : NZ.size = NC.size := rfl
  have hone : NC.all (·.oneCell') = true := by first | decide | simp [NC, Value.oneCell']
  have hB : Below W.heap.size W ((W.alloc (.cells NZ 75)).setRow W.heap.size NC) := ((Below.refl _ _).alloc (Nat.le_refl _) _).trans (below_setRow _ (Nat.le_refl _))
  have hrow := setRow_at NC hg
  by_cases hk : 0 ≤ k ∧ k < 17
  · obtain ⟨j, rfl⟩ := Int.eq_ofNat_of_zero_le hk.1
    have hj : j < 17 := by omega
    have e1 : nameT (j : Int) = nameList.getD j ByteArray.empty := by rw [nameT, if_pos hk, Int.toNat_natCast]
    have hc := cell_at hrow (nc_at j hj)
    rw [← e1] at hc
    have d1 : decide ((j : Int) < 0) = false := by simp
    have d2 : decide ((j : Int) ≥ 17) = false := by simp; omega
    generalize nameT (j : Int) = nm at *
    clear e1 b0 b1 hk
    have HB := Lib.hid hB
    clear hB hrow
    go_enter Tryz.func16, Tryz.ntmps16
    go_wp2_with (with_reducible (show wpList _ _ _ (⟨none, Op.store _ _ _, _, _, _, _⟩ :: _) _ _); go_must (refine wpList_store_row rfl 75 (.tmp 3) (.tmp 4) rfl W.heap.size NC rfl rfl 75 NZ hg hsz hold hone ?_))
    go_ret
    exact ⟨rfl, HB.out⟩
  · have e1 : nameT k = ⟨#[]⟩ := by rw [nameT, if_neg hk]; rfl
    rw [e1]
    by_cases hn : k < 0
    · have d1 : decide (k < 0) = true := decide_eq_true hn
      have HB := Lib.hid hB
      clear hB hrow e1
      go_enter Tryz.func16, Tryz.ntmps16
      go_wp2_with (with_reducible (show wpList _ _ _ (⟨none, Op.store _ _ _, _, _, _, _⟩ :: _) _ _); go_must (refine wpList_store_row rfl 75 (.tmp 3) (.tmp 4) rfl W.heap.size NC rfl rfl 75 NZ hg hsz hold hone ?_))
      go_ret
      exact ⟨rfl, HB.out⟩
    · have d1 : decide (k < 0) = false := decide_eq_false hn
      have d2 : decide (k ≥ 17) = true := decide_eq_true (by omega)
      have HB := Lib.hid hB
      clear hB hrow e1
      go_enter Tryz.func16, Tryz.ntmps16
      go_wp2_with (with_reducible (show wpList _ _ _ (⟨none, Op.store _ _ _, _, _, _, _⟩ :: _) _ _); go_must (refine wpList_store_row rfl 75 (.tmp 3) (.tmp 4) rfl W.heap.size NC rfl rfl 75 NZ hg hsz hold hone ?_))
      go_ret
      exact ⟨rfl, HB.out⟩
end Go.Proofs.YtbnmddopgbhapaaGreat
