/-
  Which letters of LetterLimits may be: plain facts.
-/
import Derived.Test.YtbnmddopgbhapaaLetClos
import Derived.Test.YtbnmddopgbhapaaLetLawA
namespace Go.Proofs.Ytbnmddopgbhapaa
open Go.RowKit

theorem catO_all : ∀ (os : List (Option ByteArray)), (catO os).isSome = os.all Option.isSome
  | [] => rfl
  | none :: os => rfl
  | some a :: os => by
    rw [catO, Option.isSome_map, catO_all os, List.all_cons]
    rfl
theorem textP_is (s : ByteArray) : (textP s).isSome = okText s := by
  unfold textP
  cases h : okText s <;> rfl
/-- the letters that the statement makes -/
def X1 (s : ByteArray) : LV := { XK 1 with key := s }
def X2 (s : ByteArray) : LV := { XK 1 with nx := s }
def X3 (s : ByteArray) : LV := { XK 1 with li := [(⟨#[]⟩, s)] }
def X4 (n : Nat) : LV := { XK 1 with li := List.replicate n (⟨#[]⟩, ⟨#[]⟩) }
def X5 (n : Int) : LV := { XK 1 with t := n }
theorem x1_some (s : ByteArray) : (putL (X1 s)).isSome = okText s := by
  unfold putL
  rw [catO_all]
  have e : (letterOs (X1 s)).all Option.isSome = ((textP s).isSome && true) := by kernel_rfl
  rw [e, Bool.and_true, textP_is]
theorem x2_some (s : ByteArray) : (putL (X2 s)).isSome = okText s := by
  unfold putL
  rw [catO_all]
  have e : (letterOs (X2 s)).all Option.isSome = ((textP s).isSome && true) := by kernel_rfl
  rw [e, Bool.and_true, textP_is]
theorem x3_some (s : ByteArray) : (putL (X3 s)).isSome = okText s := by
  unfold putL
  rw [catO_all]
  have e : (letterOs (X3 s)).all Option.isSome = ((catO [numP 0 40 1, textP ⟨#[]⟩, textP s]).isSome && true) := by kernel_rfl
  rw [e, Bool.and_true, catO_all]
  have e2 : [numP 0 40 1, textP ⟨#[]⟩, textP s].all Option.isSome = ((textP s).isSome && true) := by kernel_rfl
  rw [e2, Bool.and_true, textP_is]
theorem x5_some (n : Int) : (putL (X5 n)).isSome = decide (0 ≤ n ∧ n ≤ 255) := by
  unfold putL
  rw [catO_all]
  have e : (letterOs (X5 n)).all Option.isSome = ((numP 0 255 n).isSome && true) := by kernel_rfl
  rw [e, Bool.and_true]
  unfold numP
  by_cases h : 0 ≤ n ∧ n ≤ 255
  · rw [if_pos h, decide_eq_true h]; rfl
  · rw [if_neg h, decide_eq_false h]; rfl
theorem none_all (k : Nat) : (itemPs (List.replicate k (⟨#[]⟩, ⟨#[]⟩))).all Option.isSome = true := by
  rw [List.all_eq_true]
  intro o ho
  obtain ⟨x, hx, ho⟩ := List.mem_flatMap.1 ho
  obtain rfl := (List.mem_replicate.1 hx).2
  simp only [List.mem_cons, List.not_mem_nil, or_false] at ho
  rcases ho with rfl | rfl <;> rfl
theorem x4_some (n : Nat) : (putL (X4 n)).isSome = decide (n ≤ 40) := by
  unfold putL
  rw [catO_all]
  have e : (letterOs (X4 n)).all Option.isSome = ((itemsP (List.replicate n (⟨#[]⟩, ⟨#[]⟩))).isSome && true) := by kernel_rfl
  rw [e, Bool.and_true]
  unfold itemsP
  rw [catO_all, List.all_cons, List.take_replicate, none_all, Bool.and_true, List.length_replicate]
  unfold numP
  by_cases h : n ≤ 40
  · rw [if_pos (by omega), decide_eq_true h]; rfl
  · rw [if_neg (by omega), decide_eq_false h]; rfl
end Go.Proofs.Ytbnmddopgbhapaa
