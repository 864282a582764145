/-
  The sizes of all arcs together are once round just if all points are known (no program is met here).
-/
import Derived.Test.YthjhfnbcfgkehaaViewPartsB
namespace Go.Proofs.Ythjhfnbcfgkehaa
open Go.RowKit

def gapP (h : Nat) (p : PT) : List PT → Nat
  | [] => 18446744073709551616 + h - p.x
  | q :: _ => q.x - p.x
/-- how long those parts are that k tells of -/
def gsum (k : PT → Bool) (h : Nat) : List PT → Nat
  | [] => 0
  | p :: r => (if k p = true then gapP h p r else 0) + gsum k h r
theorem gsum_all (k : PT → Bool) {h : Nat} : ∀ {r : List PT} {p : PT}, Up (p :: r) → (∀ q ∈ p :: r, q.x < 18446744073709551616) → h ≤ p.x → gsum k h (p :: r) + gsum (fun q => !k q) h (p :: r) = 18446744073709551616 + h - p.x
  | [], p, _, _, _ => by
    show (if k p = true then gapP h p [] else 0) + 0 + ((if (!k p) = true then gapP h p [] else 0) + 0) = _
    cases k p <;> simp [gapP]
  | q :: r, p, hu, hl, hh => by
    obtain ⟨h1, h2⟩ := List.pairwise_cons.1 hu
    have hpq : p.x < q.x := h1 q (by simp)
    have hq := hl q (by simp)
    have ih := gsum_all k (h := h) (r := r) (p := q) h2 (fun z hz => hl z (by simp [hz])) (by omega)
    show (if k p = true then gapP h p (q :: r) else 0) + gsum k h (q :: r) + ((if (!k p) = true then gapP h p (q :: r) else 0) + gsum (fun q => !k q) h (q :: r)) = _
    have hg : gapP h p (q :: r) = q.x - p.x := rfl
    cases k p
    · simp only [Bool.false_eq_true, if_false, Bool.not_false, if_true, hg]
      omega
    · simp only [Bool.not_true, Bool.false_eq_true, if_false, if_true, hg]
      omega
theorem gsum_zero (k : PT → Bool) {h : Nat} : ∀ {P : List PT}, Up P → (∀ q ∈ P, q.x < 18446744073709551616) → (gsum k h P = 0 ↔ ∀ p ∈ P, k p = false)
  | [], _, _ => by simp [gsum]
  | p :: r, hu, hl => by
    obtain ⟨h1, h2⟩ := List.pairwise_cons.1 hu
    have ih := gsum_zero k (h := h) h2 (fun z hz => hl z (by simp [hz]))
    have hp := hl p (by simp)
    have hg : 0 < gapP h p r := by
      cases r with
      | nil => show 0 < 18446744073709551616 + h - p.x; omega
      | cons q r => have hpq : p.x < q.x := h1 q (by simp); show 0 < q.x - p.x; omega
    unfold gsum
    constructor
    · intro z q hq
      rcases List.mem_cons.1 hq with rfl | hq
      · cases hk : k q with
        | false => rfl
        | true => rw [if_pos hk] at z; omega
      · exact ih.1 (by omega) q hq
    · intro z
      rw [if_neg (by rw [z p (by simp)]; simp), ih.2 fun q hq => z q (by simp [hq])]
/-- what the sizes come to -/
def sumA (l : List AO) : Nat := (l.map fun p => sub64 p.t p.f).sum % 18446744073709551616
theorem mod_snoc (S x M : Nat) : (S + x) % M = (S % M + x) % M := (Nat.mod_add_mod S M x).symm
theorem sum_snoc (f : AO → Nat) (l : List AO) (p : AO) : ((l ++ [p]).map f).sum = (l.map f).sum + f p := by simp
theorem sumA_snoc (l : List AO) (p : AO) : sumA (l ++ [p]) = add64 (sumA l) (sub64 p.t p.f) := by
  unfold sumA add64
  rw [sum_snoc]
  generalize (l.map fun p => sub64 p.t p.f).sum = S
  generalize sub64 p.t p.f = x
  exact mod_snoc S x _
theorem sumA_lt (l : List AO) : sumA l < 18446744073709551616 := Nat.mod_lt _ (by omega)
abbrev isK (p : PT) : Bool := !(p.e == -1)
theorem sum_gsum {h : Nat} : ∀ {P : List PT}, Up P → (∀ q ∈ P, q.x < 18446744073709551616) → (∀ q ∈ P, h ≤ q.x) → ((arcsR h P).map fun p => sub64 p.t p.f).sum % 18446744073709551616 = gsum isK h P % 18446744073709551616
  | [], _, _, _ => rfl
  | p :: r, hu, hl, hh => by
    obtain ⟨h1, h2⟩ := List.pairwise_cons.1 hu
    have ih := sum_gsum (h := h) h2 (fun z hz => hl z (by simp [hz])) (fun z hz => hh z (by simp [hz]))
    have hp := hl p (by simp)
    have hhp := hh p (by simp)
    unfold arcsR gsum
    by_cases he : p.e = -1
    · rw [if_pos he, if_neg (by simp [isK, he]), Nat.zero_add]
      exact ih
    · rw [if_neg he, if_pos (by simp [isK, he]), List.map_cons, List.sum_cons]
      have hg : sub64 (nxh h r) p.x % 18446744073709551616 = gapP h p r % 18446744073709551616 := by
        cases r with
        | nil =>
          show sub64 h p.x % _ = (18446744073709551616 + h - p.x) % _
          have := sub64_cases (a := h) (b := p.x) (by omega) hp
          omega
        | cons q r =>
          show sub64 q.x p.x % _ = (q.x - p.x) % _
          have hq := hl q (by simp)
          have hpq : p.x < q.x := h1 q (by simp)
          have := sub64_cases hq hp
          omega
      show (sub64 (nxh h r) p.x + _) % _ = _
      omega
theorem up_head {p : PT} {r : List PT} (hu : Up (p :: r)) : ∀ q ∈ p :: r, p.x ≤ q.x := by
  intro q hq
  rcases List.mem_cons.1 hq with rfl | hq
  · exact Nat.le_refl _
  · exact Nat.le_of_lt ((List.pairwise_cons.1 hu).1 q hq)
theorem ring_iff {P : List PT} (h : PFull P) : (arcsP P ≠ [] ∧ sumA (arcsP P) = 0) ↔ ∀ x, x < 18446744073709551616 → kn (arcsP P) x ≠ none := by
  have hne := h.ne
  obtain ⟨p, r, rfl⟩ := List.exists_cons_of_ne_nil hne
  have h1 : sumA (arcsP (p :: r)) = gsum isK p.x (p :: r) % 18446744073709551616 := sum_gsum h.up h.lt (up_head h.up)
  have h2 := gsum_all isK h.up h.lt (Nat.le_refl p.x)
  have h3 := gsum_zero isK (h := p.x) h.up h.lt
  have h4 := gsum_zero (fun q => !isK q) (h := p.x) h.up h.lt
  have ha : (∀ q ∈ p :: r, (fun q => !isK q) q = false) ↔ ∀ x, x < 18446744073709551616 → kn (arcsP (p :: r)) x ≠ none := by
    constructor
    · intro z x hx
      rw [kn_parts h hx]
      unfold knP
      have := z _ (at_mem hne x)
      rw [if_neg (by simpa [isK] using this)]
      simp
    · intro z q hq
      have := z q.x (h.lt q hq)
      rw [kn_parts h (h.lt q hq)] at this
      unfold knP at this
      rw [h.self hq] at this
      by_cases he : q.e = -1
      · rw [if_pos he] at this
        exact absurd rfl this
      · simp [isK, he]
  have hb : arcsP (p :: r) = [] ↔ ∀ q ∈ p :: r, isK q = false := by
    constructor
    · intro z q hq
      cases hk : isK q with
      | false => rfl
      | true =>
        exfalso
        obtain ⟨l1, l2, e⟩ := List.append_of_mem hq
        have := (mem_arcsR (h := nxh 0 (p :: r))).2 ⟨l1, q, l2, e, (by simpa [isK] using hk), rfl⟩
        rw [arcsP] at z
        rw [z] at this
        cases this
    · intro z
      refine List.eq_nil_iff_forall_not_mem.2 fun a ha => ?_
      obtain ⟨l1, q, l2, e, h5, -⟩ := mem_arcsR.1 ha
      have := z q (by rw [e]; simp)
      simp [isK] at this
      exact h5 this
  rw [← ha, ← h4, Ne, hb, ← h3, h1]
  omega
end Go.Proofs.Ythjhfnbcfgkehaa
