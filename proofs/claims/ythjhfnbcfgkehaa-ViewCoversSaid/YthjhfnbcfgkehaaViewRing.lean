/-
  A ring that is all known: each arc ends where the next one begins; the first one behind the last one. (No program is met here.)
-/
import Derived.Test.YthjhfnbcfgkehaaViewPure
namespace Go.Proofs.Ythjhfnbcfgkehaa
open Go.RowKit

theorem Arcs.none_whole {a : List AO} (h : Arcs a) (hm : 2 ≤ a.length) {p : AO} (hp : p ∈ a) : p.f ≠ p.t := by
  intro e
  have hall : ∀ q ∈ a, q = p := fun q hq => h.one hq hp (h.lt q hq).1 (h.first hq) (by show inB p.f p.t q.f = true; rw [e]; exact in_whole _ _)
  match a, hm with
  | x :: y :: r, _ =>
    have h1 := (List.pairwise_cons.1 h.up).1 y (by simp)
    rw [hall x (by simp), hall y (by simp)] at h1
    omega
theorem mod_up {i m : Nat} (h : i < m) : (i + 1 < m ∧ (i + 1) % m = i + 1) ∨ (i + 1 = m ∧ (i + 1) % m = 0) := by
  by_cases z : i + 1 < m
  · exact .inl ⟨z, Nat.mod_eq_of_lt z⟩
  · have : i + 1 = m := by omega
    exact .inr ⟨this, by rw [this]; exact Nat.mod_self _⟩
theorem Arcs.next {a : List AO} (h : Arcs a) (hc : ∀ x, x < 18446744073709551616 → kn a x ≠ none) (i : Nat) (hi : i < a.length) :
    (a[i]).t = (a[(i + 1) % a.length]'(Nat.mod_lt _ (by omega))).f := by
  have hp : a[i] ∈ a := List.getElem_mem hi
  have ht := (h.lt _ hp).2
  have hf := (h.lt _ hp).1
  by_cases hm : 2 ≤ a.length
  · have hn := h.none_whole hm hp
    obtain ⟨v, hv⟩ := Option.ne_none_iff_exists'.1 (hc _ ht)
    obtain ⟨q, hq, h1, -⟩ := kn_some hv
    have hl : (a[i]).has (sub64 (a[i]).t 1) = true := in_last hn hf ht
    have he : (a[i]).has (a[i]).t = false := in_end hn
    have hqf : (a[i]).t = q.f := by
      refine begins (h.lt q hq).1 (h.lt q hq).2 ht h1 (bool_not fun z => ?_)
      have := h.one hp hq (pv_lt _) hl z
      rw [this] at he
      rw [this] at h1
      rw [he] at h1
      cases h1
    obtain ⟨j, hj, rfl⟩ := List.mem_iff_getElem.1 hq
    have up := List.pairwise_iff_getElem.1 h.up
    have ap : ∀ k (hk : k < a.length), k ≠ i → ¬ inB (a[i]).f (a[i]).t (a[k]).f = true := fun k hk hki z => by
      have := h.one hp (List.getElem_mem hk) (h.lt _ (List.getElem_mem hk)).1 z (h.first (List.getElem_mem hk))
      rcases Nat.lt_or_gt_of_ne hki with w | w
      · have := up k i hk hi w
        simp_all
      · have := up i k hi hk w
        simp_all
    have hji : j ≠ i := fun e => by
      subst e
      exact hn hqf.symm
    have hjm := (h.lt _ (List.getElem_mem hj)).1
    rcases mod_up hi with ⟨z, e⟩ | ⟨z, e⟩
    · have a1 := ap (i + 1) z (by omega)
      have u1 := up i (i + 1) hi z (by omega)
      have l1 := (h.lt _ (List.getElem_mem z)).1
      rw [in_iff] at a1
      have c1 := sub64_cases l1 hf
      have c2 := sub64_cases ht hf
      have hle : (a[j]).f ≤ (a[i + 1]).f := by omega
      have hgt : (a[i]).f < (a[j]).f := by omega
      have hij : i < j := by
        rcases Nat.lt_or_gt_of_ne hji with w | w
        · have := up j i hj hi w; omega
        · exact w
      have : j = i + 1 := by
        by_cases w : j = i + 1
        · exact w
        · have := up (i + 1) j z hj (by omega); omega
      subst this
      simp only [e]
      exact hqf
    · have hjl : j < i := by omega
      have u1 := up j i hj hi hjl
      have : j = 0 := by
        by_cases w : j = 0
        · exact w
        · exfalso
          have u2 := up 0 j (by omega) hj (by omega)
          have a1 := ap 0 (by omega) (by omega)
          rw [in_iff] at a1
          have c1 := sub64_cases (h.lt _ (List.getElem_mem (show 0 < a.length by omega))).1 hf
          have c2 := sub64_cases ht hf
          omega
      subst this
      simp only [e]
      exact hqf
  · have h1 : a.length = 1 := by omega
    have e : (i + 1) % a.length = i := by rw [h1, Nat.mod_one]; omega
    simp only [e]
    by_cases hn : (a[i]).f = (a[i]).t
    · exact hn.symm
    · exfalso
      obtain ⟨v, hv⟩ := Option.ne_none_iff_exists'.1 (hc _ ht)
      obtain ⟨q, hq, h2, -⟩ := kn_some hv
      obtain ⟨j, hj, rfl⟩ := List.mem_iff_getElem.1 hq
      have : j = i := by omega
      subst this
      have h3 : inB (a[j]).f (a[j]).t (a[j]).t = true := h2
      rw [in_end hn] at h3
      cases h3
/-- the point x lies in the arc at i0: how one comes round -/
theorem round_mod {i0 k m : Nat} (hi : i0 < m) (hk : k < m) : ((i0 + k + 1) % m = i0 ↔ k + 1 = m) := by
  by_cases h : i0 + k + 1 < m
  · rw [Nat.mod_eq_of_lt h]
    omega
  · have e : i0 + k + 1 = (i0 + k + 1 - m) + m := by omega
    rw [e, Nat.add_mod_right, Nat.mod_eq_of_lt (by omega)]
    omega
theorem mod_step (i k m : Nat) : ((i + k) % m + 1) % m = (i + k + 1) % m := by
  rw [Nat.add_mod ((i + k) % m), Nat.mod_mod, ← Nat.add_mod]
end Go.Proofs.Ythjhfnbcfgkehaa
