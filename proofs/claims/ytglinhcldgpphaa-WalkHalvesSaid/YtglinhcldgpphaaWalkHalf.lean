/-
  Keys of one byte each, rising: what a shelf filled with them holds, where it is cut in the middle, what lies on both sides. No program is named here.
-/
import Derived.Test.YtglinhcldgpphaaWalkFacts
import Derived.Test.YtglinhcldgpphaaShelfRef
namespace Go.Proofs.Ytglinhcldgpphaa
open Go.RowKit

def hKey (i : Nat) : ByteArray := ⟨#[UInt8.ofNat (i + 1)]⟩
def hItem (i : Nat) : Item := (hKey i, ⟨#[]⟩)
def hList (n : Nat) : List Item := (List.range n).map hItem
theorem hList_length (n : Nat) : (hList n).length = n := by simp [hList]
theorem hList_at {n i : Nat} (h : i < (hList n).length) : (hList n)[i] = hItem i := by simp [hList]
theorem hList_succ (n : Nat) : hList (n + 1) = hList n ++ [hItem n] := by simp [hList, List.range_succ]
theorem hKey_less {i j : Nat} (h : i < j) (hj : j < 60) : lessB (hKey i) (hKey j) = true := by
  rw [lessB, Lib.toList_data, Lib.toList_data]
  show Op.bytesLess [UInt8.ofNat (i + 1)] [UInt8.ofNat (j + 1)] = true
  have : UInt8.ofNat (i + 1) < UInt8.ofNat (j + 1) := by
    rw [UInt8.lt_iff_toNat_lt, UInt8.toNat_ofNat', UInt8.toNat_ofNat']
    omega
  unfold Op.bytesLess
  rw [decide_eq_true this, Bool.true_or]
theorem hItem_adr {i : Nat} (h : i < 60) : adr (hItem i) = (i + 1) * 72057594037927936 := by
  rw [adr_val, Lib.toList_data]
  show valN 8 [UInt8.ofNat (i + 1)] = _
  rw [valN, valN, UInt8.toNat_ofNat']
  · omega
theorem mem_hList {n : Nat} {x : Item} (h : x ∈ hList n) : ∃ i, i < n ∧ x = hItem i := by
  obtain ⟨i, hi, rfl⟩ := List.mem_map.1 h
  exact ⟨i, List.mem_range.1 hi, rfl⟩
theorem hList_under {n : Nat} (h : n < 60) : Under (hList n) (hKey n) := fun x hx => by
  obtain ⟨i, hi, rfl⟩ := mem_hList hx
  exact hKey_less hi h
theorem hList_fill : ∀ {n : Nat} (_ : n ≤ 60), (hList n).foldl fill1 [] = hList n
  | 0, _ => rfl
  | n + 1, h => by
    have hu := hList_under (n := n) (by omega)
    have hh : hasN (hList n) (hKey n) = false := by
      have z := hasN_under hu []
      rw [List.append_nil] at z
      rw [z]; rfl
    have hp : putN (hList n) (hKey n) ⟨#[]⟩ = hList n ++ [hItem n] := by
      have z := putN_under (v := ⟨#[]⟩) hu []
      rw [List.append_nil] at z
      rw [z]; rfl
    have hs : (hKey n).size = 1 := rfl
    have hz : (⟨#[]⟩ : ByteArray).size = 0 := rfl
    have he : putE 200 (hList n) (hKey n) ⟨#[]⟩ = 0 := by
      have hl := hList_length n
      simp [putE, rightN, valueN, hs, hz, hh]
      omega
    rw [hList_succ, List.foldl_append, hList_fill (by omega)]
    show fill1 (hList n) (hItem n) = _
    rw [fill1, if_pos ⟨by show (hKey n).size ≤ 40; rw [hs]; omega, by show (⟨#[]⟩ : ByteArray).size ≤ 40; rw [hz]; omega⟩]
    show putS 200 (hList n) (hKey n) ⟨#[]⟩ = _
    rw [putS, if_pos he, hp]
theorem fillL_hList {n : Nat} (h : n ≤ 60) : fillL (hList n) = hList n := by
  rw [fillL, List.take_of_length_le (by rw [hList_length]; exact h), hList_fill h]
theorem hList_ring (n : Nat) : arcL (hList n) 0 0 = hList n := by
  rw [arcL, filter_all (fun x _ => by simp [inA, inB]), filter_none (fun x _ => by simp [inA]), List.append_nil]
theorem hList_mid {n : Nat} (h2 : 2 ≤ n) (h : n ≤ 60) : midL (arcL (hList n) 0 0) = some (((n + 1) / 2 + 1) * 72057594037927936) := by
  rw [hList_ring]
  have hl := hList_length n
  have e : (hList n).drop ((n + 1) / 2 - 1) = hItem ((n + 1) / 2 - 1) :: hItem ((n + 1) / 2) :: (hList n).drop ((n + 1) / 2 + 1) := by
    rw [List.drop_eq_getElem_cons (by omega), hList_at, show (n + 1) / 2 - 1 + 1 = (n + 1) / 2 by omega, List.drop_eq_getElem_cons (by omega), hList_at]
  unfold midL
  rw [hl, e]
  show midScan (adr (hItem ((n + 1) / 2 - 1))) (hItem ((n + 1) / 2) :: _) = _
  rw [midScan, hItem_adr (by omega), hItem_adr (by omega), if_neg (by omega)]
theorem hList_small {n : Nat} (h : n < 2) : midL (arcL (hList n) 0 0) = none := by
  rw [hList_ring]
  rcases (by omega : n = 0 ∨ n = 1) with rfl | rfl
  · rfl
  · rfl
theorem range_low : ∀ (n k : Nat), k ≤ n → ((List.range n).filter fun i => decide (i < k)).length = k
  | 0, k, h => by simp; omega
  | n + 1, k, h => by
    rw [List.range_succ, List.filter_append, List.length_append]
    by_cases e : k = n + 1
    · subst e
      rw [List.filter_eq_self.2 (fun i hi => by have := List.mem_range.1 hi; simp; omega)]
      simp
    · rw [range_low n k (by omega), List.filter_eq_nil_iff.2 (fun i hi => by simp at hi; subst hi; simp; omega)]
      rfl
theorem hList_goes {n : Nat} (h : n ≤ 60) : Goes (hList n) := by
  refine List.pairwise_iff_getElem.2 fun i j hi hj hij => ?_
  have hl := hList_length n
  rw [hList_at, hList_at, hItem_adr (by omega), hItem_adr (by omega)]
  omega
theorem hList_low {n k m : Nat} (hk : 1 ≤ k) (hn : k < n) (h : n ≤ 60) (hm : m = (k + 1) * 72057594037927936) : (arcL (hList n) 0 m).length = k ∧ (arcL (hList n) m 0).length = n - k := by
  have hin : inB 0 0 m = true := by simp [inB]
  have h0 : m ≠ 0 := by omega
  have hlt : m < 18446744073709551616 := by omega
  have hc := arcL_cut (hList_goes h) (f := 0) (t := 0) (x := m) (by omega) (by omega) hlt h0 hin
  have hlen := congrArg List.length hc
  rw [hList_ring, List.length_append, hList_length] at hlen
  have hd : ∀ i, i < n → decide (dst 0 (hItem i) < sub64 m 0) = decide (i < k) := fun i hi => by
    have s0 : ∀ a, a < 18446744073709551616 → sub64 a 0 = a := fun a ha => by unfold sub64; omega
    have ha := hItem_adr (i := i) (by omega)
    have e1 : dst 0 (hItem i) = adr (hItem i) := s0 _ (adr_lt _)
    rw [e1, s0 m hlt, ha]
    by_cases q : i < k
    · rw [decide_eq_true q, decide_eq_true (by omega)]
    · rw [decide_eq_false q, decide_eq_false (by omega)]
  have e : (arcL (hList n) 0 m).length = k := by
    rw [arcL_low (t := 0) h0 hin, hList_ring]
    have z := range_low n k (by omega)
    rw [hList, List.filter_map, List.length_map]
    have e2 : (List.range n).filter ((fun y => decide (dst 0 y < sub64 m 0)) ∘ hItem) = (List.range n).filter fun i => decide (i < k) := List.filter_congr fun i hi => by
      rw [Function.comp_apply]
      exact hd i (List.mem_range.1 hi)
    rw [e2, z]
  exact ⟨e, by omega⟩
end Go.Proofs.Ytglinhcldgpphaa
