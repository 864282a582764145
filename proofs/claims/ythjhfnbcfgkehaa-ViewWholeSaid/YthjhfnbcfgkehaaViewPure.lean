/-
  Views as lists of arcs (no program is met here): which points are known, what an arc that is as great as can be looks like, how many there are, and that one comes round the ring from arc to arc.
-/
import Derived.Test.YthjhfnbcfgkehaaArcPlain
namespace Go.Proofs.Ythjhfnbcfgkehaa
open Go.RowKit

/-- an arc that is known: from, to, node, epoch -/
structure AO where
  f : Nat
  t : Nat
  n : Int
  e : Int
/-- what may be said -/
def AO.may (p : AO) : Prop := 0 ≤ p.n ∧ p.n ≤ 255 ∧ 0 ≤ p.e
def AO.val (p : AO) : Int × Int := (p.n, p.e)
abbrev AO.has (p : AO) (x : Nat) : Bool := inB p.f p.t x
/-- what is known at a point -/
def kn (a : List AO) (x : Nat) : Option (Int × Int) := (a.find? fun p => p.has x).map AO.val
/-- all arcs of a view -/
structure Arcs (a : List AO) : Prop where
  lt : ∀ p ∈ a, p.f < 18446744073709551616 ∧ p.t < 18446744073709551616
  rng : ∀ p ∈ a, 0 ≤ p.n ∧ p.n ≤ 255 ∧ 0 ≤ p.e ∧ p.e ≤ 9223372036854775807
  up : a.Pairwise fun p q => p.f < q.f
  whole : ∀ p ∈ a, p.f = p.t → p.f = 0
  apart : a.Pairwise fun p q => apartB p.f p.t q.f q.t = true
  max : ∀ p ∈ a, ∀ q ∈ a, p.f ≠ p.t → p.t = q.f → p.val ≠ q.val
theorem Arcs.nil : Arcs [] := ⟨by simp, by simp, List.Pairwise.nil, by simp, List.Pairwise.nil, by simp⟩
theorem kn_nil (x : Nat) : kn [] x = none := rfl

theorem pair_ne {α : Type} {R : α → α → Prop} (hs : ∀ a b, R a b → R b a) : ∀ {l : List α}, l.Pairwise R → ∀ {a b : α}, a ∈ l → b ∈ l → a = b ∨ R a b
  | [], _, _, _, h, _ => by cases h
  | x :: l, h, a, b, ha, hb => by
    obtain ⟨h1, h2⟩ := List.pairwise_cons.1 h
    rcases List.mem_cons.1 ha with rfl | ha
    · rcases List.mem_cons.1 hb with rfl | hb
      · exact .inl rfl
      · exact .inr (h1 b hb)
    · rcases List.mem_cons.1 hb with e | hb
      · exact .inr (hs _ _ (by rw [e]; exact h1 a ha))
      · exact pair_ne hs h2 ha hb
section
variable {a : List AO}
/-- a point lies in one arc -/
theorem Arcs.one (h : Arcs a) {p q : AO} (hp : p ∈ a) (hq : q ∈ a) {x : Nat} (hx : x < 18446744073709551616) (h1 : p.has x = true) (h2 : q.has x = true) : p = q := by
  rcases pair_ne (R := fun p q => apartB p.f p.t q.f q.t = true) (fun _ _ z => by rw [apart_comm]; exact z) h.apart hp hq with z | z
  · exact z
  · have := apart_in (h.lt p hp).1 (h.lt p hp).2 (h.lt q hq).1 (h.lt q hq).2 hx z h1
    have h2' : inB q.f q.t x = true := h2
    rw [this] at h2'
    cases h2'
theorem Arcs.first (h : Arcs a) {p : AO} (hp : p ∈ a) : p.has p.f = true := in_first _ _ (h.lt p hp).1 (h.lt p hp).2
/-- what is known at a point of an arc -/
theorem Arcs.known (h : Arcs a) {p : AO} (hp : p ∈ a) {x : Nat} (hx : x < 18446744073709551616) (h1 : p.has x = true) : kn a x = some p.val := by
  unfold Go.Proofs.Ythjhfnbcfgkehaa.kn
  cases hf : a.find? fun p => p.has x with
  | none => exact absurd h1 (by simpa using List.find?_eq_none.1 hf p hp)
  | some q =>
    have hq := List.mem_of_find?_eq_some hf
    have hx2 := List.find?_some (p := fun p => AO.has p x) hf
    rw [h.one hp hq hx h1 hx2]
    rfl
theorem kn_some {a : List AO} {x : Nat} {v : Int × Int} (hk : kn a x = some v) : ∃ p ∈ a, p.has x = true ∧ p.val = v := by
  unfold kn at hk
  obtain ⟨p, hp, rfl⟩ := Option.map_eq_some_iff.1 hk
  exact ⟨p, List.mem_of_find?_eq_some hp, List.find?_some (p := fun p => AO.has p x) hp, rfl⟩
theorem kn_none {a : List AO} {x : Nat} (hk : kn a x = none) : ∀ p ∈ a, p.has x = false := by
  unfold kn at hk
  intro p hp
  have := List.find?_eq_none.1 (Option.map_eq_none_iff.1 hk) p hp
  simpa using this
theorem pv_lt (x : Nat) : sub64 x 1 < 18446744073709551616 := sub64_lt _ _
/-- what lies ahead of the first point of an arc that is not all does not lie in it -/
theorem not_ahead {f t : Nat} (hf : f < 18446744073709551616) (ht : t < 18446744073709551616) (hn : f ≠ t) : inB f t (sub64 f 1) = false := by
  apply bool_not
  rw [in_iff]
  have h1 := sub64_cases hf (show 1 < 18446744073709551616 by omega)
  have h2 := sub64_cases (pv_lt f) hf
  have h3 := sub64_cases ht hf
  omega
/-- of two points side by side one lies in an arc: it begins, or ends there -/
theorem begins {f t x : Nat} (hf : f < 18446744073709551616) (ht : t < 18446744073709551616) (hx : x < 18446744073709551616) (h1 : inB f t x = true) (h2 : inB f t (sub64 x 1) = false) : x = f := by
  have h2' : ¬ inB f t (sub64 x 1) = true := by rw [h2]; simp
  rw [in_iff] at h1 h2'
  have c1 := sub64_cases hx (show 1 < 18446744073709551616 by omega)
  have c2 := sub64_cases (pv_lt x) hf
  have c3 := sub64_cases ht hf
  have c4 := sub64_cases hx hf
  omega
theorem ends {f t x : Nat} (hf : f < 18446744073709551616) (ht : t < 18446744073709551616) (hx : x < 18446744073709551616) (h1 : inB f t x = false) (h2 : inB f t (sub64 x 1) = true) : x = t := by
  have h1' : ¬ inB f t x = true := by rw [h1]; simp
  rw [in_iff] at h1' h2
  have c1 := sub64_cases hx (show 1 < 18446744073709551616 by omega)
  have c2 := sub64_cases (pv_lt x) hf
  have c3 := sub64_cases ht hf
  have c4 := sub64_cases hx hf
  omega
/-- an arc is as great as can be: behind its end -/
theorem Arcs.behind (h : Arcs a) {p : AO} (hp : p ∈ a) (hn : p.f ≠ p.t) : kn a p.t ≠ some p.val := by
  intro z
  obtain ⟨q, hq, h1, h2⟩ := kn_some z
  have ht := (h.lt p hp).2
  have hl : p.has (sub64 p.t 1) = true := in_last hn (h.lt p hp).1 ht
  have he : p.has p.t = false := in_end hn
  by_cases hql : q.has (sub64 p.t 1) = true
  · have := h.one hp hq (pv_lt _) hl hql
    subst this
    rw [he] at h1
    cases h1
  · have e := begins (h.lt q hq).1 (h.lt q hq).2 ht h1 (bool_not hql)
    exact h.max p hp q hq hn e h2.symm
/-- and ahead of its first point -/
theorem Arcs.ahead (h : Arcs a) {p : AO} (hp : p ∈ a) (hn : p.f ≠ p.t) : kn a (sub64 p.f 1) ≠ some p.val := by
  intro z
  obtain ⟨q, hq, h1, h2⟩ := kn_some z
  have hf := (h.lt p hp).1
  have hp1 : p.has (sub64 p.f 1) = false := not_ahead hf (h.lt p hp).2 hn
  by_cases hqf : q.has p.f = true
  · have := h.one hp hq hf (h.first hp) hqf
    subst this
    rw [hp1] at h1
    cases h1
  · have e := ends (h.lt q hq).1 (h.lt q hq).2 hf (bool_not hqf) h1
    have hqn : q.f ≠ q.t := by
      intro w
      have := h1
      rw [show q.has p.f = true from by show inB q.f q.t p.f = true; rw [w]; exact in_whole _ _] at hqf
      exact hqf rfl
    exact h.max q hq p hp hqn e.symm h2
/-- all points are known to be the same: one arc -/
theorem Arcs.all_same (h : Arcs a) {v : Int × Int} (hk : ∀ x, x < 18446744073709551616 → kn a x = some v) : a = [⟨0, 0, v.1, v.2⟩] := by
  have hone : ∀ p ∈ a, p = ⟨0, 0, v.1, v.2⟩ := fun p hp => by
    have hv : p.val = v := by
      have := h.known hp (h.lt p hp).1 (h.first hp)
      rw [hk _ (h.lt p hp).1] at this
      exact (Option.some.inj this).symm
    by_cases hn : p.f = p.t
    · have h0 := h.whole p hp hn
      obtain ⟨f, t, n, e⟩ := p
      simp only at hn h0
      subst hn h0
      have : (n, e) = v := hv
      subst this
      rfl
    · exact absurd (by rw [hk _ (h.lt p hp).2, hv]) (h.behind hp hn)
  cases a with
  | nil => have := hk 0 (by omega); cases this
  | cons p r =>
    cases r with
    | nil => rw [hone p (by simp)]
    | cons q r =>
      have h1 := (List.pairwise_cons.1 h.up).1 q (by simp)
      rw [hone p (by simp), hone q (by simp)] at h1
      exact absurd h1 (by simp)
/-- the points of a value are one arc, that is not all: it is known as it is -/
theorem Arcs.same_as (h : Arcs a) {v : Int × Int} {f t : Nat} (hf : f < 18446744073709551616) (ht : t < 18446744073709551616) (hft : f ≠ t) (hk : ∀ x, x < 18446744073709551616 → (kn a x = some v ↔ inB f t x = true)) {p : AO} (hp : p ∈ a) (hv : p.val = v) : p.f = f ∧ p.t = t := by
  have lt := h.lt p hp
  have hpn : p.f ≠ p.t := fun e => by
    have h1 := h.known hp ht (show p.has t = true by show inB p.f p.t t = true; rw [e]; exact in_whole _ _)
    rw [hv] at h1
    have h2 := (hk t ht).1 h1
    rw [in_end hft] at h2
    cases h2
  have h1 : inB f t p.f = true := (hk _ lt.1).1 (by rw [h.known hp lt.1 (h.first hp), hv])
  have h2 : inB f t (sub64 p.f 1) = false := bool_not fun z => h.ahead hp hpn (by rw [(hk _ (pv_lt _)).2 z, hv])
  have h3 : inB f t p.t = false := bool_not fun z => h.behind hp hpn (by rw [(hk _ lt.2).2 z, hv])
  have h4 : inB f t (sub64 p.t 1) = true := (hk _ (pv_lt _)).1 (by rw [h.known hp (pv_lt _) (in_last hpn lt.1 lt.2), hv])
  exact ⟨begins hf ht lt.1 h1 h2, ends hf ht lt.2 h3 h4⟩
theorem Arcs.same_rec (h : Arcs a) {p q : AO} (hp : p ∈ a) (hq : q ∈ a) (he : p.f = q.f) : p = q := h.one hp hq (h.lt p hp).1 (h.first hp) (by rw [he]; exact h.first hq)
end
theorem AO.ext_ {p : AO} {f t : Nat} {v : Int × Int} (h1 : p.f = f) (h2 : p.t = t) (h3 : p.val = v) : p = ⟨f, t, v.1, v.2⟩ := by
  obtain ⟨a, b, c, d⟩ := p
  simp only at h1 h2
  subst h1 h2
  have : (c, d) = v := h3
  subst this
  rfl
/-- a list without two of the same, all of one that has so many -/
theorem nodup_le {α : Type} [DecidableEq α] : ∀ {l m : List α}, l.Nodup → (∀ x ∈ l, x ∈ m) → l.length ≤ m.length
  | [], _, _, _ => Nat.zero_le _
  | x :: l, m, h, hm => by
    obtain ⟨h1, h2⟩ := List.nodup_cons.1 h
    have hx := hm x (by simp)
    have := nodup_le (l := l) (m := m.erase x) h2 fun y hy => (List.mem_erase_of_ne (by intro e; subst e; exact h1 hy)).2 (hm y (by simp [hy]))
    rw [List.length_erase_of_mem hx] at this
    have := List.length_pos_of_mem hx
    simp only [List.length_cons]
    omega
/-- where what is known changes -/
def Turns (a : List AO) (C : List Nat) : Prop := ∀ x, x < 18446744073709551616 → kn a x ≠ kn a (sub64 x 1) → x ∈ C
theorem Arcs.few {a : List AO} (h : Arcs a) {C : List Nat} (hC : Turns a C) : a.length ≤ C.length + 1 := by
  by_cases hw : ∃ p ∈ a, p.f = p.t
  · obtain ⟨p, hp, e⟩ := hw
    have hall : ∀ q ∈ a, q = p := fun q hq => h.one hq hp (h.lt q hq).1 (h.first hq) (by show inB p.f p.t q.f = true; rw [e]; exact in_whole _ _)
    have : a.length ≤ 1 := by
      cases a with
      | nil => simp
      | cons x r =>
        cases r with
        | nil => simp
        | cons y r =>
          have h1 := (List.pairwise_cons.1 h.up).1 y (by simp)
          rw [hall x (by simp), hall y (by simp)] at h1
          omega
    omega
  · have hn : (a.map AO.f).Nodup := by
      refine List.pairwise_map.2 (h.up.imp fun {p q} z => by omega)
    have := nodup_le (m := C) hn fun x hx => by
      obtain ⟨p, hp, rfl⟩ := List.mem_map.1 hx
      refine hC _ (h.lt p hp).1 fun z => h.ahead hp (fun e => hw ⟨p, hp, e⟩) ?_
      rw [← z]
      exact h.known hp (h.lt p hp).1 (h.first hp)
    rw [List.length_map] at this
    omega
/-- what is known at a point, behind what was said -/
def learnt (s : AO) (k : Nat → Option (Int × Int)) (x : Nat) : Option (Int × Int) :=
  if inB s.f s.t x = true ∧ (∀ v, k x = some v → v.2 < s.e) then some (s.n, s.e) else k x
theorem Turns.said {a a1 : List AO} {C : List Nat} {s : AO} (h : Turns a C) (hs : s.f < 18446744073709551616 ∧ s.t < 18446744073709551616) (hk : ∀ x, x < 18446744073709551616 → kn a1 x = learnt s (kn a) x) : Turns a1 (s.f :: s.t :: C) := by
  intro x hx hne
  by_cases h1 : x = s.f
  · simp [h1]
  · by_cases h2 : x = s.t
    · simp [h2]
    · have hin : inB s.f s.t x = inB s.f s.t (sub64 x 1) := by
        cases e1 : inB s.f s.t x with
        | true =>
          cases e2 : inB s.f s.t (sub64 x 1) with
          | true => rfl
          | false => exact absurd (begins hs.1 hs.2 hx e1 e2) h1
        | false =>
          cases e2 : inB s.f s.t (sub64 x 1) with
          | false => rfl
          | true => exact absurd (ends hs.1 hs.2 hx e1 e2) h2
      have : x ∈ C := h x hx fun z => hne (by
        rw [hk x hx, hk _ (pv_lt x)]
        unfold learnt
        rw [hin, z])
      simp [this]
end Go.Proofs.Ythjhfnbcfgkehaa
