/-
  A ring that two have: two arcs. What comes of what is said first, and behind it. (No program is met here.)
-/
import Derived.Test.YthjhfnbcfgkehaaViewBase
namespace Go.Proofs.Ythjhfnbcfgkehaa
open Go.RowKit

theorem Arcs.two {a : List AO} (h : Arcs a) {v u : Int × Int} {f t : Nat} (hf : f < 18446744073709551616) (ht : t < 18446744073709551616) (hft : f ≠ t) (hvu : v ≠ u)
    (hk : ∀ x, x < 18446744073709551616 → kn a x = if inB f t x = true then some v else some u) :
    a.length = 2 ∧ (⟨f, t, v.1, v.2⟩ : AO) ∈ a ∧ (⟨t, f, u.1, u.2⟩ : AO) ∈ a ∧ ∀ p ∈ a, p = ⟨f, t, v.1, v.2⟩ ∨ p = ⟨t, f, u.1, u.2⟩ := by
  have hv : ∀ x, x < 18446744073709551616 → (kn a x = some v ↔ inB f t x = true) := fun x hx => by
    rw [hk x hx]
    by_cases z : inB f t x = true
    · simp [z]
    · rw [if_neg z]
      exact ⟨fun e => absurd (Option.some.inj e).symm hvu, fun e => absurd e z⟩
  have hu : ∀ x, x < 18446744073709551616 → (kn a x = some u ↔ inB t f x = true) := fun x hx => by
    rw [hk x hx, in_rest hft hf ht hx]
    by_cases z : inB f t x = true
    · rw [if_pos z, z]
      exact ⟨fun e => absurd (Option.some.inj e) hvu, fun e => by cases e⟩
    · rw [if_neg z, bool_not z]
      simp
  have hall : ∀ p ∈ a, p = ⟨f, t, v.1, v.2⟩ ∨ p = ⟨t, f, u.1, u.2⟩ := fun p hp => by
    have h1 := h.known hp (h.lt p hp).1 (h.first hp)
    have h2 := hk p.f (h.lt p hp).1
    rw [h1] at h2
    by_cases z : inB f t p.f = true
    · rw [if_pos z] at h2
      have e := Option.some.inj h2
      obtain ⟨y1, y2⟩ := h.same_as hf ht hft hv hp e
      exact .inl (AO.ext_ y1 y2 e)
    · rw [if_neg z] at h2
      have e := Option.some.inj h2
      obtain ⟨y1, y2⟩ := h.same_as ht hf (Ne.symm hft) hu hp e
      exact .inr (AO.ext_ y1 y2 e)
  have m1 : (⟨f, t, v.1, v.2⟩ : AO) ∈ a := by
    obtain ⟨p, hp, h1, h2⟩ := kn_some ((hv f hf).2 (in_first f t hf ht))
    rcases hall p hp with e | e
    · rwa [e] at hp
    · rw [e] at h2
      exact absurd h2.symm hvu
  have m2 : (⟨t, f, u.1, u.2⟩ : AO) ∈ a := by
    obtain ⟨p, hp, h1, h2⟩ := kn_some ((hu t ht).2 (in_first t f ht hf))
    rcases hall p hp with e | e
    · rw [e] at h2
      exact absurd h2 hvu
    · rwa [e] at hp
  have hn : (a.map AO.f).Nodup := List.pairwise_map.2 (h.up.imp fun {p q} z => by omega)
  have l1 := nodup_le (m := [f, t]) hn fun x hx => by
    obtain ⟨p, hp, rfl⟩ := List.mem_map.1 hx
    rcases hall p hp with e | e <;> simp [e]
  have l2 := nodup_le (l := [f, t]) (m := a.map AO.f) (by simp [hft]) fun x hx => by
    rcases List.mem_cons.1 hx with rfl | hx
    · exact List.mem_map.2 ⟨_, m1, rfl⟩
    · rw [List.mem_singleton.1 hx]
      exact List.mem_map.2 ⟨_, m2, rfl⟩
  rw [List.length_map] at l1 l2
  simp at l1 l2
  exact ⟨by omega, m1, m2, hall⟩
/-- what is said first -/
theorem LearnPost.first {s : AO} {b : Bool} {a1 : List AO} (h : LearnPost [] s b a1) (hs : s.Fit) (hm : s.may) : b = true ∧ ∀ x, x < 18446744073709551616 → kn a1 x = if inB s.f s.t x = true then some s.val else none := by
  rcases h with ⟨-, h1, h2⟩ | ⟨h, _⟩
  · refine ⟨h2.2 ⟨s.f, hs.f, in_first _ _ hs.f hs.t, fun v hv => by cases hv⟩, fun x hx => ?_⟩
    rw [h1 x hx]
    unfold learnt
    by_cases z : inB s.f s.t x = true
    · rw [if_pos z, if_pos ⟨z, fun v hv => by cases hv⟩]
      rfl
    · rw [if_neg z, if_neg (fun y => z y.1)]
      rfl
  · exact absurd hm h
/-- what is said at all of whose points something elder is known -/
theorem LearnPost.newer {s : AO} {b : Bool} {a a1 : List AO} (h : LearnPost a s b a1) (hs : s.Fit) (hm : s.may) (ho : ∀ x, x < 18446744073709551616 → inB s.f s.t x = true → ∀ v, kn a x = some v → v.2 < s.e) :
    b = true ∧ ∀ x, x < 18446744073709551616 → kn a1 x = if inB s.f s.t x = true then some s.val else kn a x := by
  rcases h with ⟨-, h1, h2⟩ | ⟨h, _⟩
  · refine ⟨h2.2 ⟨s.f, hs.f, in_first _ _ hs.f hs.t, ho _ hs.f (in_first _ _ hs.f hs.t)⟩, fun x hx => ?_⟩
    rw [h1 x hx]
    unfold learnt
    by_cases z : inB s.f s.t x = true
    · rw [if_pos z, if_pos ⟨z, ho x hx z⟩]
      rfl
    · rw [if_neg z, if_neg (fun y => z y.1)]
  · exact absurd hm h
/-- what is said at all of whose points something as new is known -/
theorem LearnPost.elder {s : AO} {b : Bool} {a a1 : List AO} (h : LearnPost a s b a1) (ho : ∀ x, x < 18446744073709551616 → inB s.f s.t x = true → ∃ v, kn a x = some v ∧ s.e ≤ v.2) :
    b = false ∧ ∀ x, x < 18446744073709551616 → kn a1 x = kn a x := by
  rcases h with ⟨-, h1, h2⟩ | ⟨_, h1, h2⟩
  · refine ⟨?_, fun x hx => ?_⟩
    · cases b with
      | false => rfl
      | true =>
        obtain ⟨x, hx, z1, z2⟩ := h2.1 rfl
        obtain ⟨v, y1, y2⟩ := ho x hx z1
        have := z2 v y1
        omega
    · rw [h1 x hx]
      unfold learnt
      refine if_neg fun ⟨z1, z2⟩ => ?_
      obtain ⟨v, y1, y2⟩ := ho x hx z1
      have := z2 v y1
      omega
  · exact ⟨h1, fun x _ => by rw [h2]⟩
end Go.Proofs.Ythjhfnbcfgkehaa
