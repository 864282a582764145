/-
  Arcs side by side: two views that know the same are the same; a line of arcs that are owned one behind the other (no program is met here).
-/
import Derived.Test.YthgndgoljchnfaaGreatHg32
namespace Go.Proofs.YthgndgoljchnfaaGreat
open Go.RowKit

theorem same_of_up : ∀ {a b : List AO}, a.Pairwise (fun p q => p.f < q.f) → b.Pairwise (fun p q => p.f < q.f) → (∀ p, p ∈ a ↔ p ∈ b) → a = b
  | [], b, _, _, h => (List.eq_nil_iff_forall_not_mem.2 fun p hp => by simpa using (h p).2 hp).symm
  | p :: r, [], _, _, h => by have := (h p).1 (by simp); cases this
  | p :: r, q :: s, ha, hb, h => by
    obtain ⟨h1, h2⟩ := List.pairwise_cons.1 ha
    obtain ⟨h3, h4⟩ := List.pairwise_cons.1 hb
    have e : p = q := by
      rcases List.mem_cons.1 ((h p).1 (by simp)) with z | z
      · exact z
      · rcases List.mem_cons.1 ((h q).2 (by simp)) with y | y
        · exact y.symm
        · have := h1 q y
          have := h3 p z
          omega
    subst e
    rw [same_of_up h2 h4 fun x => ?_]
    constructor
    · intro hx
      rcases List.mem_cons.1 ((h x).1 (by simp [hx])) with rfl | z
      · have := h1 x hx; omega
      · exact z
    · intro hx
      rcases List.mem_cons.1 ((h x).2 (by simp [hx])) with rfl | z
      · have := h3 x hx; omega
      · exact z
/-- of two arcs that begin at one point the one that ends first -/
theorem in_short {f t u : Nat} (hf : f < 18446744073709551616) (ht : t < 18446744073709551616) (hu : u < 18446744073709551616) (_h1 : f ≠ t) (_h2 : f ≠ u) (h : t ≠ u) : inB f u t = true ∨ inB f t u = true := by
  rw [in_iff, in_iff]
  have c1 := sub64_cases ht hf
  have c2 := sub64_cases hu hf
  omega
theorem Arcs.mem_of {a b : List AO} (ha : Arcs a) (hb : Arcs b) (h : ∀ x, x < 18446744073709551616 → kn a x = kn b x) {p : AO} (hp : p ∈ a) : p ∈ b := by
  have hf := (ha.lt p hp).1
  have ht := (ha.lt p hp).2
  by_cases hn : p.f = p.t
  · have hv : ∀ x, x < 18446744073709551616 → kn a x = some p.val := fun x hx => ha.known hp hx (by show inB p.f p.t x = true; rw [hn]; exact in_whole _ _)
    have e1 := ha.all_same hv
    have e2 := hb.all_same (v := p.val) fun x hx => by rw [← h x hx]; exact hv x hx
    rw [e2, ← e1]
    exact hp
  · have h1 := ha.known hp hf (ha.first hp)
    rw [h _ hf] at h1
    obtain ⟨q, hq, h2, h3⟩ := kn_some h1
    have hqf := (hb.lt q hq).1
    have hqt := (hb.lt q hq).2
    have hqn : q.f ≠ q.t := by
      intro w
      have := hb.known hq (pv_lt p.f) (by show inB q.f q.t _ = true; rw [w]; exact in_whole _ _)
      rw [← h _ (pv_lt _), h3] at this
      exact ha.ahead hp hn this
    have e1 : p.f = q.f := by
      by_cases hz : q.has (sub64 p.f 1) = true
      · have := hb.known hq (pv_lt p.f) hz
        rw [← h _ (pv_lt _), h3] at this
        exact absurd this (ha.ahead hp hn)
      · exact begins hqf hqt hf h2 (bool_not hz)
    have e2 : p.t = q.t := Classical.byContradiction fun z => by
      rcases in_short hf ht hqt hn (by rw [e1]; exact hqn) z with y | y
      · have := hb.known hq ht (by show inB q.f q.t p.t = true; rw [← e1]; exact y)
        rw [← h _ ht, h3] at this
        exact ha.behind hp hn this
      · have := ha.known hp hqt y
        rw [h _ hqt, ← h3] at this
        exact hb.behind hq hqn this
    have e3 : p = q := by
      obtain ⟨f, t, n, e⟩ := p
      obtain ⟨f1, t1, n1, e4⟩ := q
      simp only [AO.val, Prod.mk.injEq] at e1 e2 h3
      simp [e1, e2, h3]
    rw [e3]
    exact hq
/-- two views that know the same are the same -/
theorem Arcs.ext {a b : List AO} (ha : Arcs a) (hb : Arcs b) (h : ∀ x, x < 18446744073709551616 → kn a x = kn b x) : a = b :=
  same_of_up ha.up hb.up fun _ => ⟨fun hp => ha.mem_of hb h hp, fun hp => hb.mem_of ha (fun x hx => (h x hx).symm) hp⟩
theorem inm {f t x : Nat} (hf : f < t) (ht : t < 18446744073709551616) (hx : x < 18446744073709551616) : inB f t x = true ↔ f ≤ x ∧ x < t := by
  rw [in_iff]
  have c1 := sub64_cases ht (show f < 18446744073709551616 by omega)
  have c2 := sub64_cases hx (show f < 18446744073709551616 by omega)
  omega
/-- arcs one behind the other -/
structure Line (l : List AO) : Prop where
  lt : ∀ p ∈ l, p.f < p.t ∧ p.t < 18446744073709551616
  rng : ∀ p ∈ l, p.n = 0 ∧ 0 ≤ p.e ∧ p.e ≤ 9223372036854775807
  ord : l.Pairwise fun p q => p.t ≤ q.f ∧ (p.t = q.f → p.e ≠ q.e)
theorem Line.arcs {l : List AO} (h : Line l) : Arcs l where
  lt := fun p hp => by have := h.lt p hp; omega
  rng := fun p hp => by have := h.rng p hp; omega
  up := List.Pairwise.imp_of_mem (fun {p q} hp _ z => by have := h.lt p hp; omega) h.ord
  whole := fun p hp z => by have := h.lt p hp; omega
  apart := List.Pairwise.imp_of_mem (fun {p q} hp hq z => by
    have h1 := h.lt p hp
    have h2 := h.lt q hq
    unfold apartB
    have a1 : inB p.f p.t q.f = false := bool_not fun y => by rw [inm h1.1 h1.2 (by omega)] at y; omega
    have a2 : inB q.f q.t p.f = false := bool_not fun y => by rw [inm h2.1 h2.2 (by omega)] at y; omega
    rw [a1, a2]
    rfl) h.ord
  max := fun p hp q hq _ hz hv => by
    have hR : ∀ (a b : AO), a ∈ l → b ∈ l → a = b ∨ (a.t ≤ b.f ∧ (a.t = b.f → a.e ≠ b.e)) ∨ (b.t ≤ a.f ∧ (b.t = a.f → b.e ≠ a.e)) := fun a b ha hb =>
      pair_ne (R := fun a b => (a.t ≤ b.f ∧ (a.t = b.f → a.e ≠ b.e)) ∨ (b.t ≤ a.f ∧ (b.t = a.f → b.e ≠ a.e))) (fun _ _ z => z.symm) (h.ord.imp .inl) ha hb
    have h1 := h.lt p hp
    have h2 := h.lt q hq
    have he : p.e = q.e := congrArg Prod.snd hv
    rcases hR p q hp hq with e | ⟨_, z⟩ | ⟨z, _⟩
    · rw [e] at h1 hz; omega
    · exact z hz he
    · omega
theorem Line.kn {l : List AO} (h : Line l) {x : Nat} (hx : x < 18446744073709551616) {v : Int × Int} : kn l x = some v ↔ ∃ p ∈ l, (p.f ≤ x ∧ x < p.t) ∧ p.val = v := by
  constructor
  · intro hk
    obtain ⟨p, hp, h1, h2⟩ := kn_some hk
    exact ⟨p, hp, (inm (h.lt p hp).1 (h.lt p hp).2 hx).1 h1, h2⟩
  · rintro ⟨p, hp, h1, rfl⟩
    exact h.arcs.known hp hx ((inm (h.lt p hp).1 (h.lt p hp).2 hx).2 h1)
theorem Line.one {f t : Nat} {e : Int} (h1 : f < t) (h2 : t < 18446744073709551616) (h3 : 0 ≤ e ∧ e ≤ 9223372036854775807) : Line [⟨f, t, 0, e⟩] :=
  ⟨by simp; omega, by simp; omega, List.pairwise_singleton _ _⟩

/-- what is owned behind i arcs side by side -/
def HA (z : Nat → Nat) (e : Nat → Int) : Nat → HO
  | 0 => HO.new 5 10
  | i + 1 => (HA z e i).take (z i) (z (i + 1)) (e i)
/-- the cuts rise, the epochs are few: up to n -/
structure Cuts (z : Nat → Nat) (e : Nat → Int) (n : Nat) : Prop where
  up : ∀ i, i < n → z i < z (i + 1)
  lt : ∀ i, i ≤ n → z i < 18446744073709551616
  ep : ∀ i, 0 ≤ e i ∧ e i ≤ 3
theorem Cuts.mono {z : Nat → Nat} {e : Nat → Int} {n : Nat} (h : Cuts z e n) {i j : Nat} (hij : i ≤ j) (hj : j ≤ n) : z i ≤ z j := by
  induction j with
  | zero => obtain rfl : i = 0 := by omega
            exact Nat.le_refl _
  | succ j ih =>
    by_cases hh : i = j + 1
    · rw [hh]; exact Nat.le_refl _
    · have := ih (by omega) (by omega)
      have := h.up j (by omega)
      omega
theorem HA_k (z : Nat → Nat) (e : Nat → Int) : ∀ i, (HA z e i).k = i
  | 0 => rfl
  | i + 1 => congrArg (· + 1) (HA_k z e i)
theorem HA_nd (z : Nat → Nat) (e : Nat → Int) : ∀ i, (HA z e i).nd = 5
  | 0 => rfl
  | i + 1 => HA_nd z e i
section
variable {z : Nat → Nat} {e : Nat → Int} {n : Nat}
theorem HA_own (h : Cuts z e n) {x : Nat} (hx : x < 18446744073709551616) : ∀ {i : Nat}, i ≤ n → ∀ {y : Int}, (HA z e i).own x = some y ↔ ∃ j, j < i ∧ (z j ≤ x ∧ x < z (j + 1)) ∧ e j = y
  | 0, _, y => by
    constructor
    · intro w
      cases w
    · rintro ⟨j, w, _⟩
      exact absurd w (Nat.not_lt_zero j)
  | i + 1, hi, y => by
    have ih := HA_own h hx (i := i) (by omega) (y := y)
    have hu := h.up i (by omega)
    have hm := inm hu (h.lt (i + 1) hi) hx
    cases hz : inB (z i) (z (i + 1)) x with
    | true =>
      rw [HA, HO.take_own hz]
      have hr := hm.1 hz
      constructor
      · intro w
        exact ⟨i, by omega, hr, Option.some.inj w⟩
      · rintro ⟨j, h1, h2, h3⟩
        by_cases hj : j = i
        · rw [← hj, h3]
        · have := h.mono (i := j + 1) (j := i) (by omega) (by omega)
          omega
    | false =>
      rw [HA, HO.take_not hz, ih]
      have hr : ¬ (z i ≤ x ∧ x < z (i + 1)) := fun w => by rw [hm.2 w] at hz; cases hz
      constructor
      · rintro ⟨j, h1, h2, h3⟩
        exact ⟨j, by omega, h2, h3⟩
      · rintro ⟨j, h1, h2, h3⟩
        by_cases hj : j = i
        · rw [hj] at h2
          exact absurd h2 hr
        · exact ⟨j, by omega, h2, h3⟩
theorem HA_may (h : Cuts z e n) {i : Nat} (hi : i < n) : (HA z e i).may (z i) (z (i + 1)) (e i) := by
  refine ⟨(h.ep i).1, fun x hx hin => ?_⟩
  cases ho : (HA z e i).own x with
  | none => rfl
  | some y =>
    obtain ⟨j, h1, h2, -⟩ := (HA_own h hx (by omega)).1 ho
    have := (inm (h.up i hi) (h.lt _ hi) hx).1 hin
    have := h.mono (i := j + 1) (j := i) (by omega) (by omega)
    omega
/-- between the first cut and the last one all is owned -/
theorem HA_all (h : Cuts z e n) {x : Nat} (hx : x < 18446744073709551616) : ∀ {i : Nat}, i ≤ n → ((HA z e i).own x ≠ none ↔ z 0 ≤ x ∧ x < z i)
  | 0, _ => ⟨fun w => absurd rfl w, fun w => by omega⟩
  | i + 1, hi => by
    have ih := HA_all h hx (i := i) (by omega)
    have hu := h.up i (by omega)
    have hm := inm hu (h.lt (i + 1) hi) hx
    have h0 := h.mono (i := 0) (j := i) (by omega) (by omega)
    cases hz : inB (z i) (z (i + 1)) x with
    | true =>
      rw [HA, HO.take_own hz]
      have hr := hm.1 hz
      exact ⟨fun _ => by omega, fun _ => by simp⟩
    | false =>
      rw [HA, HO.take_not hz, ih]
      have hr : ¬ (z i ≤ x ∧ x < z (i + 1)) := fun w => by rw [hm.2 w] at hz; cases hz
      omega
/-- the arcs behind i + 1 rounds: those that have ended, and where the last one began -/
def HRS (z : Nat → Nat) (e : Nat → Int) : Nat → List AO × Nat
  | 0 => ([], z 0)
  | i + 1 => if e (i + 1) = e i then HRS z e i else ((HRS z e i).1 ++ [⟨(HRS z e i).2, z (i + 1), 0, e i⟩], z (i + 1))
def RN (z : Nat → Nat) (e : Nat → Int) (i : Nat) : List AO := (HRS z e i).1 ++ [⟨(HRS z e i).2, z (i + 1), 0, e i⟩]
structure HRSInv (z : Nat → Nat) (e : Nat → Int) (i : Nat) (L : List AO) (f : Nat) : Prop where
  all : Line L
  end_ : ∀ p ∈ L, p.t ≤ f ∧ (p.t = f → p.e ≠ e i)
  first : f ≤ z i
theorem HRS_ok (h : Cuts z e n) : ∀ {i : Nat}, i < n → HRSInv z e i (HRS z e i).1 (HRS z e i).2
  | 0, _ => ⟨⟨by simp [HRS], by simp [HRS], List.Pairwise.nil⟩, by simp [HRS], Nat.le_refl _⟩
  | i + 1, hi => by
    obtain ⟨h1, h2, h3⟩ := HRS_ok h (i := i) (by omega)
    have hu := h.up i (by omega)
    rw [HRS]
    split
    · rename_i he
      exact ⟨h1, by rw [he]; exact h2, by omega⟩
    · rename_i he
      have hl := h.lt (i + 1) (by omega)
      have hep := h.ep i
      refine ⟨⟨fun p hp => ?_, fun p hp => ?_, ?_⟩, fun p hp => ?_, Nat.le_refl _⟩
      · rcases List.mem_append.1 hp with y | y
        · exact h1.lt p y
        · simp at y
          subst y
          exact ⟨by show (HRS z e i).2 < z (i + 1); omega, hl⟩
      · rcases List.mem_append.1 hp with y | y
        · exact h1.rng p y
        · simp at y
          subst y
          exact ⟨rfl, hep.1, by show e i ≤ _; omega⟩
      · refine List.pairwise_append.2 ⟨h1.ord, List.pairwise_singleton _ _, fun p hp q hq => ?_⟩
        simp at hq
        subst hq
        exact h2 p hp
      · rcases List.mem_append.1 hp with y | y
        · have := (h2 p y).1
          exact ⟨by omega, fun _ => by omega⟩
        · simp at y
          subst y
          exact ⟨Nat.le_refl _, fun _ w => he w.symm⟩
theorem RN_line (h : Cuts z e n) {i : Nat} (hi : i < n) : Line (RN z e i) := by
  obtain ⟨h1, h2, h3⟩ := HRS_ok h hi
  have hu := h.up i hi
  have hl := h.lt (i + 1) (by omega)
  have hep := h.ep i
  refine ⟨fun p hp => ?_, fun p hp => ?_, ?_⟩
  · rcases List.mem_append.1 hp with y | y
    · exact h1.lt p y
    · simp at y
      subst y
      exact ⟨by show (HRS z e i).2 < z (i + 1); omega, hl⟩
  · rcases List.mem_append.1 hp with y | y
    · exact h1.rng p y
    · simp at y
      subst y
      exact ⟨rfl, hep.1, by show e i ≤ _; omega⟩
  · refine List.pairwise_append.2 ⟨h1.ord, List.pairwise_singleton _ _, fun p hp q hq => ?_⟩
    simp at hq
    subst hq
    exact h2 p hp
theorem RN_at (h : Cuts z e n) {x : Nat} {y : Int} : ∀ {i : Nat}, i < n → ((∃ p ∈ RN z e i, (p.f ≤ x ∧ x < p.t) ∧ p.e = y) ↔ ∃ j, j < i + 1 ∧ (z j ≤ x ∧ x < z (j + 1)) ∧ e j = y)
  | 0, _ => by
    constructor
    · rintro ⟨p, hp, h1, h2⟩
      simp [RN, HRS] at hp
      subst hp
      exact ⟨0, by omega, h1, h2⟩
    · rintro ⟨j, h0, h1, h2⟩
      obtain rfl : j = 0 := by omega
      exact ⟨⟨z 0, z 1, 0, e 0⟩, by simp [RN, HRS], h1, h2⟩
  | i + 1, hi => by
    have ih := RN_at h (x := x) (y := y) (i := i) (by omega)
    have hI := HRS_ok h (i := i) (by omega)
    have hu := h.up i (by omega)
    have hu1 := h.up (i + 1) (by omega)
    have hr : (∃ j, j < i + 1 + 1 ∧ (z j ≤ x ∧ x < z (j + 1)) ∧ e j = y) ↔ (∃ p ∈ RN z e i, (p.f ≤ x ∧ x < p.t) ∧ p.e = y) ∨ ((z (i + 1) ≤ x ∧ x < z (i + 1 + 1)) ∧ e (i + 1) = y) := by
      rw [ih]
      constructor
      · rintro ⟨j, h0, h1, h2⟩
        by_cases hj : j = i + 1
        · subst hj
          exact .inr ⟨h1, h2⟩
        · exact .inl ⟨j, by omega, h1, h2⟩
      · rintro (⟨j, h0, h1, h2⟩ | ⟨h1, h2⟩)
        · exact ⟨j, by omega, h1, h2⟩
        · exact ⟨i + 1, by omega, h1, h2⟩
    rw [hr]
    unfold RN
    by_cases he : e (i + 1) = e i
    · have e1 : HRS z e (i + 1) = HRS z e i := by rw [HRS, if_pos he]
      rw [e1]
      have := hI.first
      constructor
      · rintro ⟨p, hp, h1, h2⟩
        rcases List.mem_append.1 hp with w | w
        · exact .inl ⟨p, by simp [w], h1, h2⟩
        · simp at w
          subst w
          simp only at h1 h2
          by_cases hx : x < z (i + 1)
          · exact .inl ⟨⟨(HRS z e i).2, z (i + 1), 0, e i⟩, by simp, ⟨h1.1, hx⟩, by show e i = y; omega⟩
          · exact .inr ⟨by omega, h2⟩
      · rintro (⟨p, hp, h1, h2⟩ | ⟨h1, h2⟩)
        · rcases List.mem_append.1 hp with w | w
          · exact ⟨p, by simp [w], h1, h2⟩
          · simp at w
            subst w
            simp only at h1 h2
            exact ⟨⟨(HRS z e i).2, z (i + 1 + 1), 0, e (i + 1)⟩, by simp, ⟨h1.1, by show x < z (i + 1 + 1); omega⟩, by show e (i + 1) = y; omega⟩
        · exact ⟨⟨(HRS z e i).2, z (i + 1 + 1), 0, e (i + 1)⟩, by simp, ⟨by show (HRS z e i).2 ≤ x; omega, h1.2⟩, h2⟩
    · have e1 : HRS z e (i + 1) = ((HRS z e i).1 ++ [⟨(HRS z e i).2, z (i + 1), 0, e i⟩], z (i + 1)) := by rw [HRS, if_neg he]
      rw [e1]
      constructor
      · rintro ⟨p, hp, h1, h2⟩
        rcases List.mem_append.1 hp with w | w
        · exact .inl ⟨p, w, h1, h2⟩
        · simp at w
          subst w
          exact .inr ⟨h1, h2⟩
      · rintro (⟨p, hp, h1, h2⟩ | ⟨h1, h2⟩)
        · exact ⟨p, List.mem_append.2 (.inl hp), h1, h2⟩
        · exact ⟨⟨z (i + 1), z (i + 1 + 1), 0, e (i + 1)⟩, by simp, h1, h2⟩
theorem RN_kn (h : Cuts z e n) {i : Nat} (hi : i < n) {x : Nat} (hx : x < 18446744073709551616) : kn (RN z e i) x = ((HA z e (i + 1)).own x).map fun y => (0, y) := by
  have hl := RN_line h hi
  have h1 : ∀ y, kn (RN z e i) x = some (0, y) ↔ (HA z e (i + 1)).own x = some y := fun y => by
    rw [hl.kn hx, HA_own h hx (by omega), ← RN_at h hi]
    constructor
    · rintro ⟨p, hp, hr, hv⟩
      exact ⟨p, hp, hr, congrArg Prod.snd hv⟩
    · rintro ⟨p, hp, hr, hv⟩
      exact ⟨p, hp, hr, by rw [← hv, AO.val, (hl.rng p hp).1]⟩
  cases ho : (HA z e (i + 1)).own x with
  | some y => exact (h1 y).2 ho
  | none =>
    cases hk : kn (RN z e i) x with
    | none => rfl
    | some v =>
      obtain ⟨p, hp, hr, hv⟩ := (hl.kn hx).1 hk
      have hn := (hl.rng p hp).1
      obtain ⟨v1, v2⟩ := v
      have : v1 = 0 := by rw [← hn]; exact (congrArg Prod.fst hv).symm
      subst this
      have := (h1 v2).1 hk
      rw [ho] at this
      cases this
/-- how many arcs the law counts -/
def cnt (e : Nat → Int) : Nat → Nat
  | 0 => 0
  | 1 => 1
  | i + 2 => cnt e (i + 1) + if e (i + 1) = e i then 0 else 1
theorem RN_len (z : Nat → Nat) (e : Nat → Int) : ∀ i, (RN z e i).length = cnt e (i + 1)
  | 0 => rfl
  | i + 1 => by
    have ih := RN_len z e i
    rw [cnt, ← ih]
    unfold RN
    rw [HRS]
    split <;> simp
/-- every view that knows what is owned has as many arcs -/
theorem arcs_cnt (h : Cuts z e n) {i : Nat} (hi : i < n) {l : List AO} (hl : Arcs l) (hk : ∀ x, x < 18446744073709551616 → kn l x = ((HA z e (i + 1)).own x).map fun y => (0, y)) : l.length = cnt e (i + 1) := by
  have : l = RN z e i := hl.ext (RN_line h hi).arcs fun x hx => by rw [hk x hx, RN_kn h hi hx]
  rw [this, RN_len]
/-- and one piece -/
theorem HA_piece (h : Cuts z e n) {i : Nat} (hi : i < n) {m : List AO} (hm : Arcs m) (hk : ∀ x, x < 18446744073709551616 → kn m x = ((HA z e (i + 1)).own x).map fun _ => (0, 0)) : m = [⟨z 0, z (i + 1), 0, 0⟩] := by
  have hu : z 0 < z (i + 1) := by have := h.mono (i := 0) (j := i) (by omega) (by omega); have := h.up i hi; omega
  have hl := Line.one (e := 0) hu (h.lt _ hi) (by omega)
  refine hm.ext hl.arcs fun x hx => ?_
  rw [hk x hx]
  have h1 := HA_all h hx (i := i + 1) hi
  cases ho : (HA z e (i + 1)).own x with
  | some y =>
    have := h1.1 (by rw [ho]; simp)
    exact ((hl.kn hx).2 ⟨⟨z 0, z (i + 1), 0, 0⟩, by simp, this, rfl⟩).symm
  | none =>
    cases hq : kn [⟨z 0, z (i + 1), 0, 0⟩] x with
    | none => rfl
    | some v =>
      obtain ⟨p, hp, hr, hv⟩ := (hl.kn hx).1 hq
      simp at hp
      subst hp
      exact absurd ho (h1.2 hr)
/-- the greatest epoch -/
def mxe (e : Nat → Int) : Nat → Int
  | 0 => 0
  | i + 1 => max (mxe e i) (e i)
theorem mxe_le (e : Nat → Int) : ∀ i j, j < i → e j ≤ mxe e i
  | 0, j, h => absurd h (Nat.not_lt_zero j)
  | i + 1, j, h => by
    rw [mxe]
    by_cases hj : j = i
    · subst hj; omega
    · have := mxe_le e i j (by omega); omega
theorem mxe_is {e : Nat → Int} (h : ∀ i, 0 ≤ e i) : ∀ i, ∃ j, j < i + 1 ∧ mxe e (i + 1) = e j
  | 0 => ⟨0, by omega, by show max 0 (e 0) = e 0; have := h 0; omega⟩
  | i + 1 => by
    obtain ⟨j, h1, h2⟩ := mxe_is h i
    rw [mxe]
    by_cases hj : e (i + 1) ≤ mxe e (i + 1)
    · exact ⟨j, by omega, by omega⟩
    · exact ⟨i + 1, by omega, by omega⟩
theorem mxe_range {e : Nat → Int} (h : ∀ i, 0 ≤ e i ∧ e i ≤ 3) : ∀ i, 0 ≤ mxe e i ∧ mxe e i ≤ 3
  | 0 => by simp [mxe]
  | i + 1 => by have := mxe_range h i; have := h i; rw [mxe]; omega
theorem Greatest.same {own : Nat → Option Int} {q : Nat → Prop} {a b : Int} (h1 : Greatest own q a) (h2 : Greatest own q b) : a = b := by
  obtain ⟨h1, x, x1, x2, x3⟩ := h1
  obtain ⟨h2, y, y1, y2, y3⟩ := h2
  have := h1 y b y1 y2 y3
  have := h2 x a x1 x2 x3
  omega
/-- the greatest of them, wherever one asks for it -/
theorem HA_greatest (h : Cuts z e n) {i : Nat} (hi : i < n) {q : Nat → Prop} (hq : ∀ x, x < 18446744073709551616 → (z 0 ≤ x ∧ x < z (i + 1)) → q x) : Greatest (HA z e (i + 1)).own q (mxe e (i + 1)) := by
  refine ⟨fun x y hx _ ho => ?_, ?_⟩
  · obtain ⟨j, h1, h2, rfl⟩ := (HA_own h hx (by omega)).1 ho
    exact mxe_le e _ j h1
  · obtain ⟨j, h1, h2⟩ := mxe_is (fun i => (h.ep i).1) i
    have hj := h.lt j (by omega)
    have hs : (HA z e (i + 1)).own (z j) = some (mxe e (i + 1)) := (HA_own h hj (by omega)).2 ⟨j, h1, ⟨Nat.le_refl _, h.up j (by omega)⟩, h2.symm⟩
    exact ⟨z j, hj, hq _ hj ((HA_all h hj (by omega)).1 (by rw [hs]; simp)), hs⟩
end
end Go.Proofs.YthgndgoljchnfaaGreat
