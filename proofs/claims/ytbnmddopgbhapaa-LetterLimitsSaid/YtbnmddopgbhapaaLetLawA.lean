/-
  LetterKinds' walk.
-/
import Derived.Test.YtbnmddopgbhapaaLetAlive
namespace Go.Proofs.Ytbnmddopgbhapaa
open Go.RowKit

def XK (a : Int) : LV := { k := a, f := 0, t := 0, i := 0, op := 0, key := ⟨#[]⟩, val := ⟨#[]⟩, kto := ⟨#[]⟩, most := 0, er := 0, tv := ⟨#[]⟩, ti := [], more := false, nx := ⟨#[]⟩, tn := 0, af := 0, au := 0, ep := 0, li := [], n := 0, nd := 0 }
theorem zB : i64B 0 := ⟨by decide, by decide⟩
theorem zT : (⟨#[]⟩ : ByteArray).size ≤ 9223372036854775807 := by decide
theorem zI : itemsB [] := ⟨by decide, fun x hx => by cases hx⟩
theorem zW : 0 < 18446744073709551616 := by decide
theorem xk_fine (a : Int) (h : i64B a) : (XK a).Fine := by
  constructor <;> first | exact h | exact zB | exact zT | exact zI | exact zW
theorem xk_some (a : Int) : (putL (XK a)).isSome = decide (1 ≤ a ∧ a ≤ 16) := by
  have e : letterOs (XK a) = numP 1 16 a :: (letterOs (XK 0)).drop 1 := rfl
  have hr : (catO ((letterOs (XK 0)).drop 1)).isSome = true := by kernel_rfl
  obtain ⟨r, hr⟩ := Option.isSome_iff_exists.1 hr
  unfold putL
  rw [e]
  by_cases h : 1 ≤ a ∧ a ≤ 16
  · rw [numP, if_pos h, catO_cons _ _ _ hr, decide_eq_true h]; rfl
  · rw [numP, if_neg h, decide_eq_false h]; rfl
theorem name_in {a : Int} (h : 1 ≤ a ∧ a ≤ 16) : ((nameT a).toList == []) = false := by
  have key : ∀ i : Fin 17, i.1 ≠ 0 → ((nameList.getD i.1 ByteArray.empty).toList == []) = false := by decide +kernel
  have e : nameT a = nameList.getD a.toNat ByteArray.empty := by rw [nameT, if_pos (by omega)]
  rw [e]
  exact key ⟨a.toNat, by omega⟩ (by show a.toNat ≠ 0; omega)
theorem name_out {a : Int} (h : ¬ (1 ≤ a ∧ a ≤ 16)) : ((nameT a).toList == []) = true := by
  unfold nameT
  by_cases h0 : 0 ≤ a ∧ a < 17
  · rw [if_pos h0]
    obtain rfl : a = 0 := by omega
    decide +kernel
  · rw [if_neg h0]; decide +kernel
theorem name_apart {a b : Int} (h : 1 ≤ a ∧ a ≤ 16) (hne : a ≠ b) : ((nameT a).toList == (nameT b).toList) = false := by
  have key : ∀ i j : Fin 17, i ≠ j → ((nameList.getD i.1 ByteArray.empty).toList == (nameList.getD j.1 ByteArray.empty).toList) = false := by decide +kernel
  have ea : nameT a = nameList.getD a.toNat ByteArray.empty := by rw [nameT, if_pos (by omega)]
  by_cases hb : 1 ≤ b ∧ b ≤ 16
  · have eb : nameT b = nameList.getD b.toNat ByteArray.empty := by rw [nameT, if_pos (by omega)]
    rw [ea, eb]
    exact key ⟨a.toNat, by omega⟩ ⟨b.toNat, by omega⟩ (fun e => hne (by have := Fin.mk.inj e; omega))
  · have h1 := name_in h
    have h2 := name_out hb
    have hb0 : (nameT b).toList = [] := by
      cases hn : (nameT b).toList with
      | nil => rfl
      | cons x r => rw [hn] at h2; cases h2
    rw [hb0]
    exact h1
end Go.Proofs.Ytbnmddopgbhapaa
