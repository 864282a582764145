/-
  The library's slices.Sort and slices.Compact of integers: a row of integers that somebody owns is sorted, and has each once (the kit's contracts, laid at this program in plain words). (Written by tools/genIS.py.)
-/
import Derived.Test.YthjhfnbcfgkehaaViewRow
import Derived.Shelf.Sort.Plain
import Derived.Shelf.Slices.CompactI
import Derived.Shelf.Slices.In.SortNone
import Derived.Sort.OwnSortedInts
namespace Go.Proofs.Ythjhfnbcfgkehaa
open Go.RowKit

def sortL_ren : Go.Shelf.Ren := ⟨fun | 189 => 25 | 125 => 37 | 257 => 36 | 128 => 50 | 129 => 51 | 294 => 41 | 295 => 42 | 296 => 43 | 297 => 44 | 298 => 45 | 299 => 46 | 216 => 47 | 300 => 48 | 301 => 49 | 328 => 53 | 329 => 54 | 330 => 55 | 331 => 56 | 332 => 57 | 215 => 58 | 343 => 60 | n => n, fun | 28 => 45 | 3 => 3 | 46 => 70 | 0 => 0 | 51 => 83 | 53 => 23 | 4 => 4 | 183 => 76 | 182 => 75 | 131 => 60 | 5 => 5 | 9 => 9 | 218 => 85 | 222 => 89 | 228 => 93 | 229 => 94 | n => n, fun | n => n⟩
theorem sortL : Go.Proofs.Lays.n189 Try.prog sortL_ren :=
  { mixed := by kernel_rfl
    f125 := Try.func37.trans (congrArg some (by kernel_rfl))
    f128 := Try.func50.trans (congrArg some (by kernel_rfl))
    f129 := Try.func51.trans (congrArg some (by kernel_rfl))
    f189 := Try.func25.trans (congrArg some (by kernel_rfl))
    f215 := Try.func58.trans (congrArg some (by kernel_rfl))
    f216 := Try.func47.trans (congrArg some (by kernel_rfl))
    f257 := Try.func36.trans (congrArg some (by kernel_rfl))
    f294 := Try.func41.trans (congrArg some (by kernel_rfl))
    f295 := Try.func42.trans (congrArg some (by kernel_rfl))
    f296 := Try.func43.trans (congrArg some (by kernel_rfl))
    f297 := Try.func44.trans (congrArg some (by kernel_rfl))
    f298 := Try.func45.trans (congrArg some (by kernel_rfl))
    f299 := Try.func46.trans (congrArg some (by kernel_rfl))
    f300 := Try.func48.trans (congrArg some (by kernel_rfl))
    f301 := Try.func49.trans (congrArg some (by kernel_rfl))
    f328 := Try.func53.trans (congrArg some (by kernel_rfl))
    f329 := Try.func54.trans (congrArg some (by kernel_rfl))
    f330 := Try.func55.trans (congrArg some (by kernel_rfl))
    f331 := Try.func56.trans (congrArg some (by kernel_rfl))
    f332 := Try.func57.trans (congrArg some (by kernel_rfl))
    f343 := Try.func60.trans (congrArg some (by kernel_rfl))
    t0 := Try.underlying0
    a0 := Try.isAgg0
    z0 := Try.sizeOf0
    v0 := Try.zeroValue0
    t3 := Try.underlying3
    a3 := Try.isAgg3
    z3 := Try.sizeOf3
    v3 := Try.zeroValue3
    t4 := Try.underlying4
    a4 := Try.isAgg4
    z4 := Try.sizeOf4
    v4 := Try.zeroValue4
    t5 := Try.underlying5
    a5 := Try.isAgg5
    z5 := Try.sizeOf5
    v5 := Try.zeroValue5
    t9 := Try.underlying9
    a9 := Try.isAgg9
    z9 := Try.sizeOf9
    v9 := Try.zeroValue9
    t28 := Try.underlying45
    a28 := Try.isAgg45
    z28 := Try.sizeOf45
    v28 := Try.zeroValue45
    t46 := Try.underlying70
    a46 := Try.isAgg70
    z46 := Try.sizeOf70
    v46 := Try.zeroValue70
    t51 := Try.underlying83
    a51 := Try.isAgg83
    z51 := Try.sizeOf83
    v51 := Try.zeroValue83
    t53 := Try.underlying23
    a53 := Try.isAgg23
    z53 := Try.sizeOf23
    v53 := Try.zeroValue23
    t131 := Try.underlying60
    a131 := Try.isAgg60
    z131 := Try.sizeOf60
    v131 := Try.zeroValue60
    t182 := Try.underlying75
    a182 := Try.isAgg75
    z182 := Try.sizeOf75
    v182 := Try.zeroValue75
    t183 := Try.underlying76
    a183 := Try.isAgg76
    z183 := Try.sizeOf76
    v183 := Try.zeroValue76
    t218 := Try.underlying85
    a218 := Try.isAgg85
    z218 := Try.sizeOf85
    v218 := Try.zeroValue85
    t222 := Try.underlying89
    a222 := Try.isAgg89
    z222 := Try.sizeOf89
    v222 := Try.zeroValue89
    t228 := Try.underlying93
    a228 := Try.isAgg93
    z228 := Try.sizeOf93
    v228 := Try.zeroValue93
    t229 := Try.underlying94
    a229 := Try.isAgg94
    z229 := Try.sizeOf94
    v229 := Try.zeroValue94 }
def compL_ren : Go.Shelf.Ren := ⟨fun | 20 => 26 | n => n, fun | 22 => 45 | 3 => 3 | 4 => 4 | 0 => 0 | n => n, fun | n => n⟩
theorem compL : Go.Proofs.Lays2.n20 Try.prog compL_ren :=
  { mixed := by kernel_rfl
    f20 := Try.func26.trans (congrArg some (by kernel_rfl))
    t0 := Try.underlying0
    a0 := Try.isAgg0
    z0 := Try.sizeOf0
    v0 := Try.zeroValue0
    t3 := Try.underlying3
    a3 := Try.isAgg3
    z3 := Try.sizeOf3
    v3 := Try.zeroValue3
    t4 := Try.underlying4
    a4 := Try.isAgg4
    z4 := Try.sizeOf4
    v4 := Try.zeroValue4
    t22 := Try.underlying45
    a22 := Try.isAgg45
    z22 := Try.sizeOf45
    v22 := Try.zeroValue45
    i3 := by kernel_rfl }
theorem compact_up (d : Array Int) (hs : ∀ i j, i ≤ j → j < d.size → d[i]! ≤ d[j]!) : ∀ m, m ≤ d.size → (Lib.compactUpTo d m).Pairwise (· < ·) ∧ ∀ x, x ∈ Lib.compactUpTo d m ↔ ∃ i, i < m ∧ d[i]! = x
  | 0, _ => ⟨by simp [Lib.compactUpTo], fun x => by simp [Lib.compactUpTo]⟩
  | m + 1, hm => by
    obtain ⟨h1, h2⟩ := compact_up d hs m (by omega)
    rw [Lib.compactUpTo_succ]
    cases hk : Lib.keeps d m with
    | false =>
      have hz : ¬ (m = 0 ∨ d[m]! ≠ d[m - 1]!) := of_decide_eq_false hk
      have h0 : m ≠ 0 := fun z => hz (.inl z)
      have he : d[m]! = d[m - 1]! := Decidable.byContradiction fun z => hz (.inr z)
      rw [if_neg (by simp), List.append_nil]
      refine ⟨h1, fun x => ?_⟩
      rw [h2]
      constructor
      · rintro ⟨i, hi, e⟩
        exact ⟨i, by omega, e⟩
      · rintro ⟨i, hi, e⟩
        rcases Nat.lt_or_ge i m with z | z
        · exact ⟨i, z, e⟩
        · obtain rfl : i = m := by omega
          exact ⟨i - 1, by omega, by rw [← he]; exact e⟩
    | true =>
      have hz : m = 0 ∨ d[m]! ≠ d[m - 1]! := of_decide_eq_true hk
      rw [if_pos rfl]
      refine ⟨List.pairwise_append.2 ⟨h1, by simp, fun x hx y hy => ?_⟩, fun x => ?_⟩
      · simp at hy
        subst hy
        obtain ⟨i, hi, rfl⟩ := (h2 x).1 hx
        rcases hz with z | z
        · omega
        · have a := hs i (m - 1) (by omega) (by omega)
          have b := hs (m - 1) m (by omega) (by omega)
          omega
      · rw [List.mem_append, h2, List.mem_singleton]
        constructor
        · rintro (⟨i, hi, e⟩ | rfl)
          · exact ⟨i, by omega, e⟩
          · exact ⟨m, by omega, rfl⟩
        · rintro ⟨i, hi, e⟩
          rcases Nat.lt_or_ge i m with z | z
          · exact .inl ⟨i, z, e⟩
          · obtain rfl : i = m := by omega
            exact .inr e.symm
/-- each once, rising -/
theorem compact_sorted {zs : List Int} (hs : zs.Pairwise (· ≤ ·)) : (Lib.compact zs).Pairwise (· < ·) ∧ ∀ x, x ∈ Lib.compact zs ↔ x ∈ zs := by
  have hg : ∀ i, i < zs.length → zs.toArray[i]! = zs.getD i 0 := fun i hi => by simp [List.getD, hi]
  obtain ⟨h1, h2⟩ := compact_up zs.toArray (fun i j hij hj => by
    have hj : j < zs.length := by simpa using hj
    rw [hg i (by omega), hg j hj]
    rcases Nat.lt_or_eq_of_le hij with z | rfl
    · have := List.pairwise_iff_getElem.1 hs i j (by omega) hj z
      simpa [List.getD, show i < zs.length by omega, hj] using this
    · exact Int.le_refl _) zs.length (by simp)
  refine ⟨h1, fun x => ?_⟩
  show x ∈ Lib.compactUpTo zs.toArray zs.length ↔ _
  rw [h2]
  constructor
  · rintro ⟨i, hi, rfl⟩
    rw [hg i hi]
    simp [List.getD, hi]
  · intro hx
    obtain ⟨i, hi, rfl⟩ := List.getElem_of_mem hx
    exact ⟨i, hi, by rw [hg i hi]; simp [List.getD, hi]⟩
abbrev sortI (zs : List Int) : List Int := zs.mergeSort fun x y => decide (x ≤ y)
theorem sortI_sorted (zs : List Int) : (sortI zs).Pairwise (· ≤ ·) := by
  have h := List.pairwise_mergeSort (le := fun x y : Int => decide (x ≤ y)) (fun a b c h1 h2 => by simp at h1 h2 ⊢; omega) (fun a b => by simp; omega) zs
  exact h.imp fun z => by simpa using z
theorem sortI_mem (zs : List Int) (x : Int) : x ∈ sortI zs ↔ x ∈ zs := List.mem_mergeSort
theorem sort_own {W : World} {base g n c : Nat} {zs : List Int} (h : W.ownsRow base 3 1 (.slice (some ⟨g, 0, none⟩) n c) n (zs.map (Value.int .i64))) (hn : n ≤ 1000000) :
    Calls Try.prog 25 #[.slice (some ⟨g, 0, none⟩) n c] W fun e w' => e = .returned (.tuple #[]) ∧ w'.ownsRow base 3 1 (.slice (some ⟨g, 0, none⟩) n c) n ((sortI zs).map (Value.int .i64)) ∧ Touch [g] W w' := by
  have hl : zs.length = n := by have := h.1; simpa using this
  obtain ⟨cur, hg, hnc, hcm, hcs, ht, hb⟩ := own_raw h
  subst hl
  have hH := Go.holds_of_blockI (ss := zs) hg (by simpa using ht)
  have hlt := (h.lt g rfl).2
  have hc := Any.slices_Sort_int sortL g 0 c zs W hH hlt (by omega)
  change Calls Try.prog 25 _ _ _ at hc
  refine hc.mono ?_
  rintro e w' ⟨rfl, k, os, rfl⟩
  exact ⟨rfl, Go.ownsRow_sortedI (List.length_mergeSort _) hb hg hnc hcm (by simpa using hcs), (Touch.refl _ _).grown (Go.grownBy_sortedI _) (fun q hq => .inl (by simp [Option.some.inj hq]))⟩
theorem sort_nil (W : World) (A : Option Addr) (c : Nat) : Calls Try.prog 25 #[.slice A 0 c] W fun e w' => e = .returned (.tuple #[]) ∧ w' = W := by
  have hc := Any.slices_Sort_int_none sortL A c W
  change Calls Try.prog 25 _ _ _ at hc
  exact hc
theorem compact_len (zs : List Int) : (Lib.compact zs).length ≤ zs.length := by
  unfold Lib.compact Lib.compactUpTo
  rw [List.length_map]
  exact Nat.le_trans (List.length_filter_le _ _) (by simp)
theorem compact_own {W : World} {base g n c : Nat} {zs : List Int} (h : W.ownsRow base 3 1 (.slice (some ⟨g, 0, none⟩) n c) n (zs.map (Value.int .i64))) (hn : n ≤ 1000000) :
    Calls Try.prog 26 #[.slice (some ⟨g, 0, none⟩) n c] W fun e w' => e = .returned (.slice (some ⟨g, 0, none⟩) (Lib.compact zs).length c) ∧ w'.ownsRow base 3 1 (.slice (some ⟨g, 0, none⟩) (Lib.compact zs).length c) (Lib.compact zs).length ((Lib.compact zs).map (Value.int .i64)) ∧ Touch [g] W w' := by
  have hl : zs.length = n := by have := h.1; simpa using this
  obtain ⟨cur, hg, hnc, hcm, hcs, ht, hb⟩ := own_raw h
  subst hl
  have hH := Go.holds_of_blockI (ss := zs) hg (by simpa using ht)
  have hc := Any.slices_Compact_int compL g 0 c zs W hH (by omega) hnc
  change Calls Try.prog 26 _ _ _ at hc
  refine hc.mono ?_
  rintro e w' ⟨rfl, k, rfl⟩
  have hle : (Lib.compact zs).length ≤ zs.length := compact_len zs
  have hlen : (Lib.compact zs ++ List.replicate (zs.length - (Lib.compact zs).length) 0).length = zs.length := by simp; omega
  have h1 := Go.ownsRow_sortedI (w := W) (n := k) (os := #[]) (base := base) hlen hb hg hnc hcm (by simpa using hcs)
  have h2 := Go.grownBy_sortedI (w := W) (g := g) (n := k) (os := #[]) (Lib.compact zs ++ List.replicate (zs.length - (Lib.compact zs).length) 0).toArray
  have hgr : ∀ X : World, Go.Sort.grow X #[] = X := fun X => by simp [Go.Sort.grow]
  rw [hgr] at h1 h2
  have h3 := own_take h1 (Lib.compact zs).length hle
  rw [Nat.mul_one, List.map_append, List.take_left' (by simp)] at h3
  exact ⟨rfl, h3, (Touch.refl _ _).grown h2 (fun q hq => .inl (by simp [Option.some.inj hq]))⟩
theorem compact_nil (W : World) (A : Option Addr) (c : Nat) : Calls Try.prog 26 #[.slice A 0 c] W fun e w' => e = .returned (.slice A 0 c) ∧ w' = W := by
  have hc := Any.slices_Compact_int_empty compL A c W
  change Calls Try.prog 26 _ _ _ at hc
  exact hc
end Go.Proofs.Ythjhfnbcfgkehaa
