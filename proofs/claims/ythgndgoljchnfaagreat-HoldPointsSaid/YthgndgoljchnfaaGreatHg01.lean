/-
  Small words for every walk over arcs: a subtraction that goes round, as a plain function of natural numbers; where a point lies.
  Plain facts on arcs as pairs of natural numbers: where points lie, what lies within another one, what is apart. No program is met here.
  Views as lists of arcs (no program is met here): which points are known, what an arc that is as great as can be looks like, how many there are, and that one comes round the ring from arc to arc.
  Arcs put together: those that follow one another and may be, as few as it takes (no program is met here).
  The walks of the document's own answers to chapter 2, and of the calls of package arc that only reckon.
-/
import Derived.Test.YthgndgoljchnfaaGreatRows
import Derived.WalkKit
import Derived.WalkSpells
import Derived.WalkLawsBesides
import Derived.Deep.LoopGhost
import Derived.Deep.QuietTactic
import Derived.BigQuiet
import Derived.Laws.IdiomStrings
import Derived.Laws.BitsAllLaws
import Derived.Lib.Strings
import Derived.Lib.Hide
namespace Go.Proofs.YthgndgoljchnfaaGreat
open Go.RowKit

/-- what the ring's subtraction answers -/
def sub64 (a b : Nat) : Nat := (a + 18446744073709551616 - b) % 18446744073709551616
/-- what the ring's addition answers -/
def add64 (a b : Nat) : Nat := (a + b) % 18446744073709551616
/-- does x lie in the arc from f to t? -/
def inB (f t x : Nat) : Bool := (f == t) || decide (sub64 x f < sub64 t f)
/-- is the arc one piece? -/
def oneB (f t : Nat) : Bool := (t == 0) || decide (f < t)
def pF (f _ k : Nat) : Nat := if k = 0 then f else 0
def pT (f t k : Nat) : Nat := if k = 0 then (if oneB f t then t else 0) else t
def pN (f t : Nat) : Nat := if oneB f t then 1 else 2
/-- does x lie in the piece from f to t? -/
def pieceB (f t x : Nat) : Bool := decide (f ≤ x) && ((t == 0) || decide (x < t))
def apartB (f t g u : Nat) : Bool := !inB f t g && !inB g u f
def withinB (f t g u : Nat) : Bool := (f == t) || (!(g == u) && (inB f t g && decide (sub64 u g ≤ sub64 t g)))
theorem sub64_lt (a b : Nat) : sub64 a b < 18446744073709551616 := Nat.mod_lt _ (by omega)
theorem sub64_cases {a b : Nat} (ha : a < 18446744073709551616) (hb : b < 18446744073709551616) : (b ≤ a ∧ sub64 a b = a - b) ∨ (a < b ∧ sub64 a b = a + 18446744073709551616 - b) := by
  unfold sub64; omega
theorem bcell {W w1 : World} (hb : Below W.heap.size W w1) : (∀ b o, b < W.heap.size → w1.cell? ⟨b, o, none⟩ = W.cell? ⟨b, o, none⟩) ∧ (∀ b o, b < W.heap.size → w1.frozen? ⟨b, o, none⟩ = W.frozen? ⟨b, o, none⟩) :=
  ⟨fun b o h => hb.cell (p := ⟨b, o, none⟩) h, fun b o h => hb.frozen (p := ⟨b, o, none⟩) h⟩
end Go.Proofs.YthgndgoljchnfaaGreat
namespace Go.Proofs.YthgndgoljchnfaaGreat
open Go.RowKit

theorem sub_turn {a b c : Nat} (ha : a < 18446744073709551616) (hb : b < 18446744073709551616) (hc : c < 18446744073709551616) : sub64 (sub64 a c) (sub64 b c) = sub64 a b := by
  have h1 := sub64_cases ha hc
  have h2 := sub64_cases hb hc
  have h3 := sub64_cases (sub64_lt a c) (sub64_lt b c)
  have h4 := sub64_cases ha hb
  omega
theorem eq_turn {a b c : Nat} (ha : a < 18446744073709551616) (hb : b < 18446744073709551616) (hc : c < 18446744073709551616) : (sub64 a c == sub64 b c) = (a == b) := by
  have h1 := sub64_cases ha hc
  have h2 := sub64_cases hb hc
  rw [Bool.eq_iff_iff, beq_iff_eq, beq_iff_eq]
  constructor
  · intro h; omega
  · intro h; omega
theorem in_turn {f t x c : Nat} (hf : f < 18446744073709551616) (ht : t < 18446744073709551616) (hx : x < 18446744073709551616) (hc : c < 18446744073709551616) : inB (sub64 f c) (sub64 t c) (sub64 x c) = inB f t x := by
  unfold inB
  rw [eq_turn hf ht hc, sub_turn hx hf hc, sub_turn ht hf hc]
theorem apart_turn {f t g u c : Nat} (hf : f < 18446744073709551616) (ht : t < 18446744073709551616) (hg : g < 18446744073709551616) (hu : u < 18446744073709551616) (hc : c < 18446744073709551616) :
    apartB (sub64 f c) (sub64 t c) (sub64 g c) (sub64 u c) = apartB f t g u := by
  unfold apartB
  rw [in_turn hf ht hg hc, in_turn hg hu hf hc]
theorem within_turn {f t g u c : Nat} (hf : f < 18446744073709551616) (ht : t < 18446744073709551616) (hg : g < 18446744073709551616) (hu : u < 18446744073709551616) (hc : c < 18446744073709551616) :
    withinB (sub64 f c) (sub64 t c) (sub64 g c) (sub64 u c) = withinB f t g u := by
  unfold withinB
  rw [in_turn hf ht hg hc, eq_turn hf ht hc, eq_turn hg hu hc, sub_turn hu hg hc, sub_turn ht hg hc]
theorem sub_self (a : Nat) (_ha : a < 18446744073709551616) : sub64 a a = 0 := by unfold sub64; omega
theorem sub_zero {a : Nat} (ha : a < 18446744073709551616) : sub64 a 0 = a := by unfold sub64; omega
/-! where points lie: in Prop's form -/
theorem in_iff {f t x : Nat} : inB f t x = true ↔ (f = t ∨ sub64 x f < sub64 t f) := by
  unfold inB; simp
theorem in_iff0 {t x : Nat} (ht : t < 18446744073709551616) (hx : x < 18446744073709551616) : inB 0 t x = true ↔ (t = 0 ∨ x < t) := by
  rw [in_iff, sub_zero ht, sub_zero hx]
  constructor <;> intro h <;> omega
theorem in_first (f t : Nat) (hf : f < 18446744073709551616) (ht : t < 18446744073709551616) : inB f t f = true := by
  rw [in_iff, sub_self f hf]
  have := sub64_cases ht hf
  omega
theorem in_whole (f x : Nat) : inB f f x = true := by rw [in_iff]; exact .inl rfl
theorem in_end {f t : Nat} (_h : f ≠ t) : inB f t t = false := by
  rw [← Bool.not_eq_true, in_iff]; omega
theorem in_last {f t : Nat} (_h : f ≠ t) (hf : f < 18446744073709551616) (ht : t < 18446744073709551616) : inB f t (sub64 t 1) = true := by
  rw [in_iff]
  have h1 := sub64_cases ht (show 1 < 18446744073709551616 by omega)
  have h2 := sub64_cases (sub64_lt t 1) hf
  have h3 := sub64_cases ht hf
  omega
theorem bool_not {b : Bool} (h : ¬ b = true) : b = false := by simpa using h
theorem apart_iff {f t g u : Nat} : apartB f t g u = true ↔ ¬ inB f t g = true ∧ ¬ inB g u f = true := by
  unfold apartB; simp
theorem within_iff {f t g u : Nat} : withinB f t g u = true ↔ (f = t ∨ (g ≠ u ∧ inB f t g = true ∧ sub64 u g ≤ sub64 t g)) := by
  unfold withinB; simp

theorem apart_comm (f t g u : Nat) : apartB f t g u = apartB g u f t := Bool.and_comm _ _
theorem apart_in {f t g u x : Nat} (hf : f < 18446744073709551616) (ht : t < 18446744073709551616) (hg : g < 18446744073709551616) (hu : u < 18446744073709551616) (hx : x < 18446744073709551616)
    (h : apartB f t g u = true) (h2 : inB f t x = true) : inB g u x = false := by
  apply bool_not
  rw [← in_turn hf ht hx hf, sub_self f hf] at h2
  rw [← apart_turn hf ht hg hu hf, sub_self f hf] at h
  rw [← in_turn hg hu hx hf]
  have a1 := sub64_lt t f
  have a2 := sub64_lt g f
  have a3 := sub64_lt u f
  have a4 := sub64_lt x f
  generalize sub64 t f = T at *
  generalize sub64 g f = G at *
  generalize sub64 u f = U at *
  generalize sub64 x f = X at *
  rw [in_iff0 a1 a4] at h2
  rw [apart_iff, in_iff0 a1 a2, in_iff] at h
  rw [in_iff]
  have c1 := sub64_cases a3 a2
  have c2 := sub64_cases (show 0 < 18446744073709551616 by omega) a2
  have c3 := sub64_cases a4 a2
  omega
/-- where it may be cut: both parts -/
theorem cut_apart {f t x : Nat} (hf : f < 18446744073709551616) (ht : t < 18446744073709551616) (hx : x < 18446744073709551616) (hn : x ≠ f) (h : inB f t x = true) :
    apartB f x x t = true ∧ withinB f t f x = true ∧ withinB f t x t = true := by
  rw [← apart_turn hf hx hx ht hf, ← within_turn hf ht hf hx hf, ← within_turn hf ht hx ht hf, sub_self f hf]
  rw [← in_turn hf ht hx hf, sub_self f hf] at h
  have hn' : sub64 x f ≠ 0 := by have := sub64_cases hx hf; omega
  have a1 := sub64_lt t f
  have a4 := sub64_lt x f
  generalize sub64 t f = T at *
  generalize sub64 x f = X at *
  rw [in_iff0 a1 a4] at h
  rw [apart_iff, within_iff, within_iff, in_iff0 a4 a4, in_iff, in_iff0 a1 a4, in_iff0 a1 (by omega), sub_zero a4, sub_zero a1]
  have c1 := sub64_cases a1 a4
  have c2 := sub64_cases (show 0 < 18446744073709551616 by omega) a4
  refine ⟨⟨?_, ?_⟩, ?_, ?_⟩ <;> omega
end Go.Proofs.YthgndgoljchnfaaGreat
namespace Go.Proofs.YthgndgoljchnfaaGreat
open Go.RowKit

/-- an arc that is known: from, to, node, epoch -/
structure AO where
  f : Nat
  t : Nat
  n : Int
  e : Int
/-- what may be said -/
def AO.may (p : AO) : Prop := 0 ≤ p.n ∧ p.n ≤ 255 ∧ 0 ≤ p.e
def AO.val (p : AO) : Int × Int := (p.n, p.e)
abbrev AO.has (p : AO) (x : Nat) : Bool := inB p.f p.t x
/-- what is known at a point -/
def kn (a : List AO) (x : Nat) : Option (Int × Int) := (a.find? fun p => p.has x).map AO.val
/-- all arcs of a view -/
structure Arcs (a : List AO) : Prop where
  lt : ∀ p ∈ a, p.f < 18446744073709551616 ∧ p.t < 18446744073709551616
  rng : ∀ p ∈ a, 0 ≤ p.n ∧ p.n ≤ 255 ∧ 0 ≤ p.e ∧ p.e ≤ 9223372036854775807
  up : a.Pairwise fun p q => p.f < q.f
  whole : ∀ p ∈ a, p.f = p.t → p.f = 0
  apart : a.Pairwise fun p q => apartB p.f p.t q.f q.t = true
  max : ∀ p ∈ a, ∀ q ∈ a, p.f ≠ p.t → p.t = q.f → p.val ≠ q.val
theorem Arcs.nil : Arcs [] := ⟨by simp, by simp, List.Pairwise.nil, by simp, List.Pairwise.nil, by simp⟩
theorem pair_ne {α : Type} {R : α → α → Prop} (hs : ∀ a b, R a b → R b a) : ∀ {l : List α}, l.Pairwise R → ∀ {a b : α}, a ∈ l → b ∈ l → a = b ∨ R a b
  | [], _, _, _, h, _ => by cases h
  | x :: l, h, a, b, ha, hb => by
    obtain ⟨h1, h2⟩ := List.pairwise_cons.1 h
    rcases List.mem_cons.1 ha with rfl | ha
    · rcases List.mem_cons.1 hb with rfl | hb
      · exact .inl rfl
      · exact .inr (h1 b hb)
    · rcases List.mem_cons.1 hb with e | hb
      · exact .inr (hs _ _ (by rw [e]; exact h1 a ha))
      · exact pair_ne hs h2 ha hb
section
variable {a : List AO}
/-- a point lies in one arc -/
theorem Arcs.one (h : Arcs a) {p q : AO} (hp : p ∈ a) (hq : q ∈ a) {x : Nat} (hx : x < 18446744073709551616) (h1 : p.has x = true) (h2 : q.has x = true) : p = q := by
  rcases pair_ne (R := fun p q => apartB p.f p.t q.f q.t = true) (fun _ _ z => by rw [apart_comm]; exact z) h.apart hp hq with z | z
  · exact z
  · have := apart_in (h.lt p hp).1 (h.lt p hp).2 (h.lt q hq).1 (h.lt q hq).2 hx z h1
    have h2' : inB q.f q.t x = true := h2
    rw [this] at h2'
    cases h2'
theorem Arcs.first (h : Arcs a) {p : AO} (hp : p ∈ a) : p.has p.f = true := in_first _ _ (h.lt p hp).1 (h.lt p hp).2
/-- what is known at a point of an arc -/
theorem Arcs.known (h : Arcs a) {p : AO} (hp : p ∈ a) {x : Nat} (hx : x < 18446744073709551616) (h1 : p.has x = true) : kn a x = some p.val := by
  unfold Go.Proofs.YthgndgoljchnfaaGreat.kn
  cases hf : a.find? fun p => p.has x with
  | none => exact absurd h1 (by simpa using List.find?_eq_none.1 hf p hp)
  | some q =>
    have hq := List.mem_of_find?_eq_some hf
    have hx2 := List.find?_some (p := fun p => AO.has p x) hf
    rw [h.one hp hq hx h1 hx2]
    rfl
theorem kn_some {a : List AO} {x : Nat} {v : Int × Int} (hk : kn a x = some v) : ∃ p ∈ a, p.has x = true ∧ p.val = v := by
  unfold kn at hk
  obtain ⟨p, hp, rfl⟩ := Option.map_eq_some_iff.1 hk
  exact ⟨p, List.mem_of_find?_eq_some hp, List.find?_some (p := fun p => AO.has p x) hp, rfl⟩
theorem pv_lt (x : Nat) : sub64 x 1 < 18446744073709551616 := sub64_lt _ _
/-- what lies ahead of the first point of an arc that is not all does not lie in it -/
theorem not_ahead {f t : Nat} (hf : f < 18446744073709551616) (ht : t < 18446744073709551616) (hn : f ≠ t) : inB f t (sub64 f 1) = false := by
  apply bool_not
  rw [in_iff]
  have h1 := sub64_cases hf (show 1 < 18446744073709551616 by omega)
  have h2 := sub64_cases (pv_lt f) hf
  have h3 := sub64_cases ht hf
  omega
/-- of two points side by side one lies in an arc: it begins, or ends there -/
theorem begins {f t x : Nat} (hf : f < 18446744073709551616) (ht : t < 18446744073709551616) (hx : x < 18446744073709551616) (h1 : inB f t x = true) (h2 : inB f t (sub64 x 1) = false) : x = f := by
  have h2' : ¬ inB f t (sub64 x 1) = true := by rw [h2]; simp
  rw [in_iff] at h1 h2'
  have c1 := sub64_cases hx (show 1 < 18446744073709551616 by omega)
  have c2 := sub64_cases (pv_lt x) hf
  have c3 := sub64_cases ht hf
  have c4 := sub64_cases hx hf
  omega
theorem ends {f t x : Nat} (hf : f < 18446744073709551616) (ht : t < 18446744073709551616) (hx : x < 18446744073709551616) (h1 : inB f t x = false) (h2 : inB f t (sub64 x 1) = true) : x = t := by
  have h1' : ¬ inB f t x = true := by rw [h1]; simp
  rw [in_iff] at h1' h2
  have c1 := sub64_cases hx (show 1 < 18446744073709551616 by omega)
  have c2 := sub64_cases (pv_lt x) hf
  have c3 := sub64_cases ht hf
  have c4 := sub64_cases hx hf
  omega
/-- an arc is as great as can be: behind its end -/
theorem Arcs.behind (h : Arcs a) {p : AO} (hp : p ∈ a) (hn : p.f ≠ p.t) : kn a p.t ≠ some p.val := by
  intro z
  obtain ⟨q, hq, h1, h2⟩ := kn_some z
  have ht := (h.lt p hp).2
  have hl : p.has (sub64 p.t 1) = true := in_last hn (h.lt p hp).1 ht
  have he : p.has p.t = false := in_end hn
  by_cases hql : q.has (sub64 p.t 1) = true
  · have := h.one hp hq (pv_lt _) hl hql
    subst this
    rw [he] at h1
    cases h1
  · have e := begins (h.lt q hq).1 (h.lt q hq).2 ht h1 (bool_not hql)
    exact h.max p hp q hq hn e h2.symm
/-- and ahead of its first point -/
theorem Arcs.ahead (h : Arcs a) {p : AO} (hp : p ∈ a) (hn : p.f ≠ p.t) : kn a (sub64 p.f 1) ≠ some p.val := by
  intro z
  obtain ⟨q, hq, h1, h2⟩ := kn_some z
  have hf := (h.lt p hp).1
  have hp1 : p.has (sub64 p.f 1) = false := not_ahead hf (h.lt p hp).2 hn
  by_cases hqf : q.has p.f = true
  · have := h.one hp hq hf (h.first hp) hqf
    subst this
    rw [hp1] at h1
    cases h1
  · have e := ends (h.lt q hq).1 (h.lt q hq).2 hf (bool_not hqf) h1
    have hqn : q.f ≠ q.t := by
      intro w
      have := h1
      rw [show q.has p.f = true from by show inB q.f q.t p.f = true; rw [w]; exact in_whole _ _] at hqf
      exact hqf rfl
    exact h.max q hq p hp hqn e.symm h2
/-- all points are known to be the same: one arc -/
theorem Arcs.all_same (h : Arcs a) {v : Int × Int} (hk : ∀ x, x < 18446744073709551616 → kn a x = some v) : a = [⟨0, 0, v.1, v.2⟩] := by
  have hone : ∀ p ∈ a, p = ⟨0, 0, v.1, v.2⟩ := fun p hp => by
    have hv : p.val = v := by
      have := h.known hp (h.lt p hp).1 (h.first hp)
      rw [hk _ (h.lt p hp).1] at this
      exact (Option.some.inj this).symm
    by_cases hn : p.f = p.t
    · have h0 := h.whole p hp hn
      obtain ⟨f, t, n, e⟩ := p
      simp only at hn h0
      subst hn h0
      have : (n, e) = v := hv
      subst this
      rfl
    · exact absurd (by rw [hk _ (h.lt p hp).2, hv]) (h.behind hp hn)
  cases a with
  | nil => have := hk 0 (by omega); cases this
  | cons p r =>
    cases r with
    | nil => rw [hone p (by simp)]
    | cons q r =>
      have h1 := (List.pairwise_cons.1 h.up).1 q (by simp)
      rw [hone p (by simp), hone q (by simp)] at h1
      exact absurd h1 (by simp)
end
/-- a list without two of the same, all of one that has so many -/
theorem nodup_le {α : Type} [DecidableEq α] : ∀ {l m : List α}, l.Nodup → (∀ x ∈ l, x ∈ m) → l.length ≤ m.length
  | [], _, _, _ => Nat.zero_le _
  | x :: l, m, h, hm => by
    obtain ⟨h1, h2⟩ := List.nodup_cons.1 h
    have hx := hm x (by simp)
    have := nodup_le (l := l) (m := m.erase x) h2 fun y hy => (List.mem_erase_of_ne (by intro e; subst e; exact h1 hy)).2 (hm y (by simp [hy]))
    rw [List.length_erase_of_mem hx] at this
    have := List.length_pos_of_mem hx
    simp only [List.length_cons]
    omega
/-- where what is known changes -/
def Turns (a : List AO) (C : List Nat) : Prop := ∀ x, x < 18446744073709551616 → kn a x ≠ kn a (sub64 x 1) → x ∈ C
theorem Arcs.few {a : List AO} (h : Arcs a) {C : List Nat} (hC : Turns a C) : a.length ≤ C.length + 1 := by
  by_cases hw : ∃ p ∈ a, p.f = p.t
  · obtain ⟨p, hp, e⟩ := hw
    have hall : ∀ q ∈ a, q = p := fun q hq => h.one hq hp (h.lt q hq).1 (h.first hq) (by show inB p.f p.t q.f = true; rw [e]; exact in_whole _ _)
    have : a.length ≤ 1 := by
      cases a with
      | nil => simp
      | cons x r =>
        cases r with
        | nil => simp
        | cons y r =>
          have h1 := (List.pairwise_cons.1 h.up).1 y (by simp)
          rw [hall x (by simp), hall y (by simp)] at h1
          omega
    omega
  · have hn : (a.map AO.f).Nodup := by
      refine List.pairwise_map.2 (h.up.imp fun {p q} z => by omega)
    have := nodup_le (m := C) hn fun x hx => by
      obtain ⟨p, hp, rfl⟩ := List.mem_map.1 hx
      refine hC _ (h.lt p hp).1 fun z => h.ahead hp (fun e => hw ⟨p, hp, e⟩) ?_
      rw [← z]
      exact h.known hp (h.lt p hp).1 (h.first hp)
    rw [List.length_map] at this
    omega
end Go.Proofs.YthgndgoljchnfaaGreat
namespace Go.Proofs.YthgndgoljchnfaaGreat
open Go.RowKit

/-- what must be the same of two that are put together; b: nothing must -/
def keyJ (b : Bool) (p : AO) : Int := if b then 0 else p.e
def mayJ (b : Bool) (p q : AO) : Bool := b || p.e == q.e
def bothJ (p q : AO) : AO := ⟨p.f, q.t, p.n, max p.e q.e⟩
def okJ (b : Bool) (p q : AO) : Bool := ((p.t == q.f) && apartB p.f p.t q.f q.t) && mayJ b p q
theorem mayJ_iff {b : Bool} {p q : AO} : mayJ b p q = true ↔ keyJ b p = keyJ b q := by
  unfold mayJ keyJ
  cases b <;> simp
theorem mayJ_not {b : Bool} {p q : AO} : mayJ b p q = false ↔ keyJ b p ≠ keyJ b q := by
  rw [← Bool.not_eq_true, mayJ_iff]
def mgJ (b : Bool) : List AO → List AO → List AO
  | M, [] => M
  | M, o :: K => match M.getLast? with
    | some p => if okJ b p o = true then mgJ b (M.dropLast ++ [bothJ p o]) K else mgJ b (M ++ [o]) K
    | none => mgJ b (M ++ [o]) K
/-- the last one may end where the first one begins -/
def wrapJ (b : Bool) (M : List AO) : List AO := match M with
  | [] => []
  | p :: A => match A.getLast? with
    | some q => if okJ b q p = true then A.dropLast ++ [bothJ q p] else p :: A
    | none => p :: A
/-- there are many names for the whole ring -/
def wholeJ : List AO → List AO
  | [p] => if p.f = p.t then [⟨0, 0, p.n, p.e⟩] else [p]
  | M => M
theorem wrapJ_one (b : Bool) (p : AO) : wrapJ b [p] = [p] := rfl
theorem wrapJ_two (b : Bool) (p q : AO) (A : List AO) : wrapJ b (p :: (A ++ [q])) = if okJ b q p = true then A ++ [bothJ q p] else p :: (A ++ [q]) := by
  unfold wrapJ
  simp
theorem wholeJ_one (p : AO) : wholeJ [p] = if p.f = p.t then [⟨0, 0, p.n, p.e⟩] else [p] := rfl
def joinJ (b : Bool) (D : List AO) : List AO := wholeJ (wrapJ b (mgJ b [] D))

/-- one behind another one, of those that do not meet -/
def Ln (p q : AO) : Prop := p.f < p.t ∧ p.t ≤ q.f ∧ (q.f < q.t ∨ q.t ≤ p.f)
abbrev AO.lt (p : AO) : Prop := p.f < 18446744073709551616 ∧ p.t < 18446744073709551616
theorem ln_of {p q : AO} (hp : p.lt) (hq : q.lt) (h : p.f < q.f) (ha : apartB p.f p.t q.f q.t = true) : Ln p q := by
  rw [apart_iff, in_iff, in_iff] at ha
  have h1 := sub64_cases hq.1 hp.1
  have h2 := sub64_cases hp.2 hp.1
  have h3 := sub64_cases hp.1 hq.1
  have h4 := sub64_cases hq.2 hq.1
  obtain ⟨a, b⟩ := hp
  obtain ⟨c, d⟩ := hq
  unfold Ln
  omega
theorem ln_apart {p q : AO} (hp : p.lt) (hq : q.lt) (h : Ln p q) : apartB p.f p.t q.f q.t = true := by
  rw [apart_iff, in_iff, in_iff]
  have h1 := sub64_cases hq.1 hp.1
  have h2 := sub64_cases hp.2 hp.1
  have h3 := sub64_cases hp.1 hq.1
  have h4 := sub64_cases hq.2 hq.1
  obtain ⟨a, b⟩ := hp
  obtain ⟨c, d⟩ := hq
  unfold Ln at h
  omega
theorem has_both {p q : AO} (hp : p.lt) (hq : q.lt) (h : p.t = q.f) (ha : apartB p.f p.t q.f q.t = true) {x : Nat} (hx : x < 18446744073709551616) : (bothJ p q).has x = (p.has x || q.has x) := by
  obtain ⟨pf, pt, pn, pe⟩ := p
  obtain ⟨qf, qt, qn, qe⟩ := q
  simp only at h
  subst h
  rw [apart_iff, in_iff, in_iff] at ha
  show inB pf qt x = (inB pf pt x || inB pt qt x)
  rw [Bool.eq_iff_iff, Bool.or_eq_true, in_iff, in_iff, in_iff]
  simp only [AO.lt] at hp hq ha
  have h1 := sub64_cases hq.1 hp.1
  have h2 := sub64_cases hp.1 hq.1
  have h3 := sub64_cases hq.2 hq.1
  have h4 := sub64_cases hq.2 hp.1
  have h5 := sub64_cases hx hp.1
  have h6 := sub64_cases hx hq.1
  have h7 := sub64_cases hq.1 hq.1
  have h8 := sub64_cases hp.1 hp.1
  omega
/-- M has what D has, put together -/
structure CovJ (b : Bool) (D M : List AO) : Prop where
  c1 : ∀ o ∈ D, ∃ p ∈ M, keyJ b p = keyJ b o ∧ o.e ≤ p.e ∧ ∀ x, x < 18446744073709551616 → o.has x = true → p.has x = true
  c2 : ∀ p ∈ M, ∀ x, x < 18446744073709551616 → p.has x = true → ∃ o ∈ D, o.has x = true ∧ keyJ b o = keyJ b p
  c3 : ∀ p ∈ M, ∃ o ∈ D, o.e = p.e ∧ ∀ x, x < 18446744073709551616 → o.has x = true → p.has x = true
  lt : (∀ o ∈ D, o.lt) → ∀ p ∈ M, p.lt
  nd : (∀ o ∈ D, o.n = 0) → ∀ p ∈ M, p.n = 0
  len : M.length ≤ D.length
theorem CovJ.refl (b : Bool) (D : List AO) : CovJ b D D := ⟨fun o h => ⟨o, h, rfl, Int.le_refl _, fun _ _ z => z⟩, fun p h _ _ z => ⟨p, h, z, rfl⟩, fun p h => ⟨p, h, rfl, fun _ _ z => z⟩, fun h => h, fun h => h, Nat.le_refl _⟩
theorem CovJ.trans {b : Bool} {D M N : List AO} (h : CovJ b D M) (k : CovJ b M N) : CovJ b D N where
  c1 o ho := by
    obtain ⟨p, hp, h1, h2, h3⟩ := h.c1 o ho
    obtain ⟨q, hq, k1, k2, k3⟩ := k.c1 p hp
    exact ⟨q, hq, k1.trans h1, by omega, fun x y z => k3 x y (h3 x y z)⟩
  c2 q hq x hx z := by
    obtain ⟨p, hp, k1, k2⟩ := k.c2 q hq x hx z
    obtain ⟨o, ho, h1, h2⟩ := h.c2 p hp x hx k1
    exact ⟨o, ho, h1, h2.trans k2⟩
  c3 q hq := by
    obtain ⟨p, hp, k1, k2⟩ := k.c3 q hq
    obtain ⟨o, ho, h1, h2⟩ := h.c3 p hp
    exact ⟨o, ho, h1.trans k1, fun x hx z => k2 x hx (h2 x hx z)⟩
  lt z := k.lt (h.lt z)
  nd z := k.nd (h.nd z)
  len := Nat.le_trans k.len h.len
/-- two of them put together, wherever they stand -/
theorem CovJ.both {b : Bool} {D M : List AO} {p q : AO} (hp : p ∈ D) (hq : q ∈ D) (ok : okJ b p q = true) (lp : p.lt) (lq : q.lt) (hl : M.length ≤ D.length) (h1 : ∀ o ∈ D, o = p ∨ o = q ∨ o ∈ M) (h2 : ∀ o ∈ M, o = bothJ p q ∨ o ∈ D) (h3 : bothJ p q ∈ M) : CovJ b D M := by
  unfold okJ at ok
  simp only [Bool.and_eq_true, beq_iff_eq] at ok
  obtain ⟨⟨e, ha⟩, hm⟩ := ok
  rw [mayJ_iff] at hm
  have hk : keyJ b (bothJ p q) = keyJ b p := by
    unfold keyJ at hm ⊢
    cases b
    · simp only [Bool.false_eq_true, if_false] at hm ⊢
      show max p.e q.e = p.e
      omega
    · rfl
  have hx : ∀ x, x < 18446744073709551616 → (bothJ p q).has x = (p.has x || q.has x) := fun x hx => has_both lp lq e ha hx
  refine ⟨fun o ho => ?_, fun r hr x hx' z => ?_, fun r hr => ?_, fun hD r hr => ?_, fun hD r hr => ?_, hl⟩
  · rcases h1 o ho with rfl | rfl | z
    · exact ⟨_, h3, hk, by show o.e ≤ max o.e q.e; omega, fun x y z => by rw [hx x y, z]; rfl⟩
    · exact ⟨_, h3, hk.trans hm, by show o.e ≤ max p.e o.e; omega, fun x y z => by rw [hx x y, z]; simp⟩
    · exact ⟨o, z, rfl, Int.le_refl _, fun _ _ y => y⟩
  · rcases h2 r hr with rfl | y
    · rw [hx x hx', Bool.or_eq_true] at z
      rcases z with z | z
      · exact ⟨p, hp, z, hk.symm⟩
      · exact ⟨q, hq, z, by rw [hk, hm]⟩
    · exact ⟨r, y, z, rfl⟩
  · rcases h2 r hr with rfl | y
    · by_cases c : q.e ≤ p.e
      · exact ⟨p, hp, by show p.e = max p.e q.e; omega, fun x y z => by rw [hx x y, z]; rfl⟩
      · exact ⟨q, hq, by show q.e = max p.e q.e; omega, fun x y z => by rw [hx x y, z]; simp⟩
    · exact ⟨r, y, rfl, fun _ _ z => z⟩
  · rcases h2 r hr with rfl | y
    · exact ⟨lp.1, lq.2⟩
    · exact hD r y
  · rcases h2 r hr with rfl | y
    · exact hD p hp
    · exact hD r y
/-- no two side by side that may be put together -/
def NJr (b : Bool) (p q : AO) : Prop := p.t = q.f → keyJ b p ≠ keyJ b q
abbrev NJ (b : Bool) (M : List AO) : Prop := M.Pairwise (NJr b)
theorem ok_key {b : Bool} {p q : AO} (ok : okJ b p q = true) : p.t = q.f ∧ keyJ b p = keyJ b q ∧ keyJ b (bothJ p q) = keyJ b p := by
  unfold okJ at ok
  simp only [Bool.and_eq_true, beq_iff_eq] at ok
  obtain ⟨⟨e, ha⟩, hm⟩ := ok
  rw [mayJ_iff] at hm
  refine ⟨e, hm, ?_⟩
  unfold keyJ at hm ⊢
  cases b
  · simp only [Bool.false_eq_true, if_false] at hm ⊢
    show max p.e q.e = p.e
    omega
  · rfl
theorem not_ok {b : Bool} {p q : AO} (ha : apartB p.f p.t q.f q.t = true) (no : ¬ okJ b p q = true) (e : p.t = q.f) : keyJ b p ≠ keyJ b q := by
  rw [← mayJ_not]
  unfold okJ at no
  rw [ha, e] at no
  simpa using no
theorem pw_last {R : AO → AO → Prop} {A K : List AO} {p : AO} (h : (A ++ [p] ++ K).Pairwise R) : (∀ a ∈ A, R a p) ∧ (∀ k ∈ K, R p k) ∧ (∀ a ∈ A, ∀ k ∈ K, R a k) ∧ A.Pairwise R ∧ K.Pairwise R := by
  rw [List.append_assoc, List.pairwise_append] at h
  obtain ⟨h1, h2, h3⟩ := h
  rw [List.singleton_append, List.pairwise_cons] at h2
  exact ⟨fun a ha => h3 a ha p (by simp), h2.1, fun a ha k hk => h3 a ha k (by simp [hk]), h1, h2.2⟩
theorem pw_mk {R : AO → AO → Prop} {A K : List AO} {p : AO} (h1 : ∀ a ∈ A, R a p) (h2 : ∀ k ∈ K, R p k) (h3 : ∀ a ∈ A, ∀ k ∈ K, R a k) (h4 : A.Pairwise R) (h5 : K.Pairwise R) : (A ++ [p] ++ K).Pairwise R := by
  rw [List.append_assoc, List.pairwise_append, List.singleton_append]
  refine ⟨h4, List.pairwise_cons.2 ⟨h2, h5⟩, fun a ha x hx => ?_⟩
  rcases List.mem_cons.1 hx with rfl | z
  · exact h1 a ha
  · exact h3 a ha x z
theorem mgJ_ok (b : Bool) : ∀ (K M : List AO), (M ++ K).Pairwise Ln → (∀ o ∈ M ++ K, o.lt) → NJ b M → (mgJ b M K).Pairwise Ln ∧ NJ b (mgJ b M K) ∧ CovJ b (M ++ K) (mgJ b M K)
  | [], M, h, hl, hn => by
    rw [List.append_nil] at h ⊢
    exact ⟨h, hn, CovJ.refl _ _⟩
  | o :: K, M, h, hl, hn => by
    rcases List.eq_nil_or_concat M with rfl | ⟨A, p, rfl⟩
    · show (mgJ b ([] ++ [o]) K).Pairwise Ln ∧ NJ b (mgJ b ([] ++ [o]) K) ∧ CovJ b ([] ++ o :: K) (mgJ b ([] ++ [o]) K)
      exact mgJ_ok b K ([] ++ [o]) h hl (by simp [NJ])
    · rw [List.concat_eq_append] at h hl hn ⊢
      have hlp : p.lt := hl p (by simp)
      have hlo : o.lt := hl o (by simp)
      unfold mgJ
      rw [List.getLast?_append, List.getLast?_singleton]
      simp only [Option.some_or, List.dropLast_concat]
      obtain ⟨a1, a2, a3, a4, a5⟩ := pw_last h
      have hpo := a2 o (by simp)
      obtain ⟨b2, b5⟩ := List.pairwise_cons.1 a5
      obtain ⟨n1, _, _, n4, _⟩ := pw_last (K := []) ((List.append_nil (A ++ [p])).symm ▸ hn)
      by_cases ok : okJ b p o = true
      · rw [if_pos ok]
        obtain ⟨e, k1, k2⟩ := ok_key ok
        have hln : (A ++ [bothJ p o] ++ K).Pairwise Ln := pw_mk
          (fun a ha => by
            have z1 := a1 a ha
            have z2 := a3 a ha o (by simp)
            unfold Ln at hpo z1 z2 ⊢
            simp only [bothJ]
            omega)
          (fun k hk => by
            have z1 := a2 k (by simp [hk])
            have z2 := b2 k hk
            unfold Ln at hpo z1 z2 ⊢
            simp only [bothJ]
            omega) (fun a ha k hk => a3 a ha k (by simp [hk])) a4 b5
        obtain ⟨r1, r2, r3⟩ := mgJ_ok b K (A ++ [bothJ p o]) hln
          (fun x hx => by
            simp only [List.mem_append, List.mem_singleton] at hx
            rcases hx with (hx | rfl) | hx
            · exact hl x (by simp [hx])
            · exact ⟨hlp.1, hlo.2⟩
            · exact hl x (by simp [hx]))
          (by
            have := pw_mk (K := []) (p := bothJ p o) (R := NJr b) (fun a ha z => by rw [k2]; exact n1 a ha z) (by simp) (by simp) n4 List.Pairwise.nil
            rwa [List.append_nil] at this)
        refine ⟨r1, r2, CovJ.trans ?_ r3⟩
        refine CovJ.both (p := p) (q := o) (by simp) (by simp) ok hlp hlo (by simp) (fun x hx => ?_) (fun x hx => ?_) (by simp)
        · rcases List.mem_append.1 hx with hx | hx
          · rcases List.mem_append.1 hx with hx | hx
            · exact .inr (.inr (by simp [hx]))
            · exact .inl (List.mem_singleton.1 hx)
          · rcases List.mem_cons.1 hx with hx | hx
            · exact .inr (.inl hx)
            · exact .inr (.inr (by simp [hx]))
        · rcases List.mem_append.1 hx with hx | hx
          · rcases List.mem_append.1 hx with hx | hx
            · exact .inr (by simp [hx])
            · exact .inl (List.mem_singleton.1 hx)
          · exact .inr (by simp [hx])
      · rw [if_neg ok]
        have e : A ++ [p] ++ o :: K = A ++ [p] ++ [o] ++ K := by simp
        rw [e] at h hl ⊢
        refine mgJ_ok b K (A ++ [p] ++ [o]) h hl ?_
        have := pw_mk (K := []) (p := o) (A := A ++ [p]) (R := NJr b) (fun a ha z => by
          rcases List.mem_append.1 ha with ha | ha
          · have z1 := a1 a ha
            unfold Ln at hpo z1
            omega
          · rw [List.mem_singleton.1 ha] at z ⊢
            exact not_ok (ln_apart hlp hlo hpo) ok z) (by simp) (by simp) hn List.Pairwise.nil
        rwa [List.append_nil] at this
/-- as great as can be, round the ring too -/
def FC (b : Bool) (r : List AO) : Prop := ∀ p ∈ r, ∀ q ∈ r, p.f ≠ p.t → p.t = q.f → keyJ b p ≠ keyJ b q
theorem pw_or {R : AO → AO → Prop} : ∀ {l : List AO}, l.Pairwise R → ∀ {a c : AO}, a ∈ l → c ∈ l → a = c ∨ R a c ∨ R c a
  | [], _, _, _, h, _ => by cases h
  | x :: l, h, a, c, ha, hc => by
    obtain ⟨h1, h2⟩ := List.pairwise_cons.1 h
    rcases List.mem_cons.1 ha with rfl | ha
    · rcases List.mem_cons.1 hc with e | hc
      · exact .inl e.symm
      · exact .inr (.inl (h1 c hc))
    · rcases List.mem_cons.1 hc with e | hc
      · exact .inr (.inr (by rw [e]; exact h1 a ha))
      · exact pw_or h2 ha hc
/-- a list whose last one does not go on in the first one -/
theorem fc_of {b : Bool} {r : List AO} (h : r.Pairwise Ln) (hn : NJ b r) (hw : ∀ p A q, r = p :: (A ++ [q]) → q.t = p.f → keyJ b q ≠ keyJ b p) : FC b r := by
  intro x hx y hy hne e
  have hh : r.Pairwise fun p q => Ln p q ∧ (p.t = q.f → keyJ b p ≠ keyJ b q) := List.pairwise_and_iff.2 ⟨h, hn⟩
  rcases pw_or hh hx hy with rfl | z | z
  · exact absurd e.symm hne
  · exact z.2 e
  · have z := z.1
    -- y is the first one, and x the last one
    cases r with
    | nil => cases hx
    | cons p B =>
      obtain ⟨h1, h2⟩ := List.pairwise_cons.1 h
      rcases List.eq_nil_or_concat B with rfl | ⟨A, q, rfl⟩
      · simp only [List.mem_singleton] at hx hy
        subst hx hy
        exact absurd e.symm hne
      · rw [List.concat_eq_append] at *
        have hyp : y = p := by
          rcases List.mem_cons.1 hy with w | w
          · exact w
          · have c1 := h1 y w
            rcases List.mem_cons.1 hx with w' | w'
            · subst w'
              unfold Ln at c1 z
              omega
            · have c2 := h1 x w'
              unfold Ln at c1 c2 z
              omega
        have hxq : x = q := by
          rcases List.mem_cons.1 hx with w | w
          · subst w
            rw [hyp] at z
            unfold Ln at z
            omega
          · rcases List.mem_append.1 w with w | w
            · have c := (List.pairwise_append.1 h2).2.2 x w q (by simp)
              unfold Ln at c z
              omega
            · exact List.mem_singleton.1 w
        subst hyp hxq
        exact hw _ _ _ rfl e
theorem wrapJ_ok {b : Bool} {M : List AO} (h : M.Pairwise Ln) (hl : ∀ o ∈ M, o.lt) (hn : NJ b M) : (wrapJ b M).Pairwise Ln ∧ FC b (wrapJ b M) ∧ CovJ b M (wrapJ b M) := by
  cases M with
  | nil => exact ⟨List.Pairwise.nil, (fun p hp => by cases hp), CovJ.refl _ _⟩
  | cons p B =>
    rcases List.eq_nil_or_concat B with rfl | ⟨A, q, rfl⟩
    · rw [wrapJ_one]
      refine ⟨h, fc_of h hn (fun p' A q e => ?_), CovJ.refl _ _⟩
      have := congrArg List.length e
      simp at this
    · rw [List.concat_eq_append] at *
      rw [wrapJ_two]
      have hlp : p.lt := hl p (by simp)
      have hlq : q.lt := hl q (by simp)
      obtain ⟨h1, h2⟩ := List.pairwise_cons.1 h
      obtain ⟨h3, _, h4⟩ := List.pairwise_append.1 h2
      have hpq := h1 q (by simp)
      obtain ⟨n1, n2⟩ := List.pairwise_cons.1 hn
      obtain ⟨n3, _, n4⟩ := List.pairwise_append.1 n2
      by_cases ok : okJ b q p = true
      · rw [if_pos ok]
        obtain ⟨e, k1, k2⟩ := ok_key ok
        have hln : (A ++ [bothJ q p]).Pairwise Ln := by
          refine List.pairwise_append.2 ⟨h3, by simp, fun a ha x hx => ?_⟩
          rw [List.mem_singleton.1 hx]
          have z1 := h1 a (by simp [ha])
          have z2 := h4 a ha q (by simp)
          unfold Ln at hpq z1 z2 ⊢
          simp only [bothJ]
          omega
        have hnj : NJ b (A ++ [bothJ q p]) := by
          refine List.pairwise_append.2 ⟨n3, by simp, fun a ha x hx => ?_⟩
          rw [List.mem_singleton.1 hx]
          intro z
          rw [k2]
          exact n4 a ha q (by simp) z
        refine ⟨hln, fc_of hln hnj (fun p' A' q' e' w => ?_), ?_⟩
        · cases A with
          | nil =>
            have := congrArg List.length e'
            simp at this
          | cons a A =>
            rw [List.cons_append] at e'
            obtain ⟨ea, e1⟩ := List.cons.inj e'
            have e2 := List.singleton_inj.1 (List.append_inj' e1 rfl).2
            rw [← e2, ← ea] at w
            rw [← e2, ← ea, k2, k1]
            exact n1 a (by simp) w
        · refine CovJ.both (p := q) (q := p) (by simp) (by simp) ok hlq hlp (by simp) (fun x hx => ?_) (fun x hx => ?_) (by simp)
          · rcases List.mem_cons.1 hx with hx | hx
            · exact .inr (.inl hx)
            · rcases List.mem_append.1 hx with hx | hx
              · exact .inr (.inr (by simp [hx]))
              · exact .inl (List.mem_singleton.1 hx)
          · rcases List.mem_append.1 hx with hx | hx
            · exact .inr (by simp [hx])
            · exact .inl (List.mem_singleton.1 hx)
      · rw [if_neg ok]
        refine ⟨h, fc_of h hn (fun p' A' q' e' w => ?_), CovJ.refl _ _⟩
        obtain ⟨ea, e1⟩ := List.cons.inj e'
        have e2 := List.singleton_inj.1 (List.append_inj' e1 rfl).2
        rw [← e2, ← ea] at w ⊢
        exact not_ok (by rw [apart_comm]; exact ln_apart hlp hlq hpq) ok w
theorem wholeJ_ok {b : Bool} {M : List AO} (h : M.Pairwise Ln) (hf : FC b M) : (wholeJ M).Pairwise Ln ∧ FC b (wholeJ M) ∧ CovJ b M (wholeJ M) ∧ ∀ p ∈ wholeJ M, p.f = p.t → p.f = 0 := by
  match M with
  | [] => exact ⟨h, hf, CovJ.refl _ _, (fun p hp => by cases hp)⟩
  | [p] =>
    rw [wholeJ_one]
    by_cases e : p.f = p.t
    · rw [if_pos e]
      have hx : ∀ x, p.has x = true := fun x => by show inB p.f p.t x = true; rw [e]; exact in_whole _ _
      have hk : keyJ b ⟨0, 0, p.n, p.e⟩ = keyJ b p := rfl
      refine ⟨by simp, fun x hx y hy => ?_, ⟨fun o ho => ⟨_, List.mem_singleton.2 rfl, ?_, ?_, fun x _ _ => in_whole _ _⟩, fun q hq x _ _ => ⟨p, by simp, hx x, ?_⟩, fun q hq => ⟨p, by simp, ?_, fun x _ _ => ?_⟩, fun _ q hq => ?_, fun z q hq => ?_, by simp⟩, fun q hq _ => ?_⟩
      · rw [List.mem_singleton.1 hx]
        exact fun z => absurd rfl z
      · rw [List.mem_singleton.1 ho, hk]
      · rw [List.mem_singleton.1 ho]
        exact Int.le_refl _
      · rw [List.mem_singleton.1 hq, hk]
      · rw [List.mem_singleton.1 hq]
      · rw [List.mem_singleton.1 hq]
        exact in_whole _ _
      · rw [List.mem_singleton.1 hq]
        exact ⟨Nat.zero_lt_succ _, Nat.zero_lt_succ _⟩
      · rw [List.mem_singleton.1 hq]
        exact z p (by simp)
      · rw [List.mem_singleton.1 hq]
    · rw [if_neg e]
      exact ⟨h, hf, CovJ.refl _ _, fun q hq z => by rw [List.mem_singleton.1 hq] at z; exact absurd z e⟩
  | p :: q :: A =>
    refine ⟨h, hf, CovJ.refl _ _, fun x hx z => ?_⟩
    exfalso
    have hpq := (List.pairwise_cons.1 h).1 q (by simp)
    rcases List.mem_cons.1 hx with rfl | hx
    · unfold Ln at hpq
      omega
    · have := (List.pairwise_cons.1 h).1 x hx
      unfold Ln at this
      omega
/-- what is put together: those that may be are; all points are where they were -/
theorem joinJ_ok {b : Bool} {D : List AO} (h : D.Pairwise Ln) (hl : ∀ o ∈ D, o.lt) : (joinJ b D).Pairwise Ln ∧ FC b (joinJ b D) ∧ CovJ b D (joinJ b D) ∧ ∀ p ∈ joinJ b D, p.f = p.t → p.f = 0 := by
  obtain ⟨a1, a2, a3⟩ := mgJ_ok b D [] h hl List.Pairwise.nil
  rw [List.nil_append] at a3
  obtain ⟨b1, b2, b3⟩ := wrapJ_ok a1 (a3.lt hl) a2
  obtain ⟨c1, c2, c3, c4⟩ := wholeJ_ok b1 b2
  exact ⟨c1, c2, (a3.trans b3).trans c3, c4⟩
/-- as of which epoch each point is owned -/
def Ow (own : Nat → Option Int) (l : List AO) : Prop := ∀ x, x < 18446744073709551616 → ∀ e, own x = some e ↔ ∃ o ∈ l, o.has x = true ∧ o.e = e
/-- what a list that is owned looks like -/
structure OwnL (l : List AO) (own : Nat → Option Int) : Prop where
  arcs : Arcs l
  nd : ∀ p ∈ l, p.n = 0
  ow : Ow own l
theorem OwnL.nil : OwnL [] (fun _ => none) := ⟨Arcs.nil, by simp, fun x _ e => by simp⟩
theorem OwnL.kn {l : List AO} {own : Nat → Option Int} (h : OwnL l own) {x : Nat} (hx : x < 18446744073709551616) : Go.Proofs.YthgndgoljchnfaaGreat.kn l x = (own x).map fun e => (0, e) := by
  cases ho : own x with
  | none =>
    cases hk : Go.Proofs.YthgndgoljchnfaaGreat.kn l x with
    | none => rfl
    | some v =>
      obtain ⟨p, hp, h1, h2⟩ := kn_some hk
      have := (h.ow x hx p.e).2 ⟨p, hp, h1, rfl⟩
      rw [ho] at this
      cases this
  | some e =>
    obtain ⟨p, hp, h1, rfl⟩ := (h.ow x hx e).1 ho
    rw [h.arcs.known hp hx h1]
    show some (p.n, p.e) = _
    rw [h.nd p hp]
    rfl
/-- what is sorted, and apart, stands in a line -/
theorem ln_sorted {D : List AO} (hl : ∀ o ∈ D, o.lt) (hs : D.Pairwise fun p q => p.f ≤ q.f) (ha : D.Pairwise fun p q => apartB p.f p.t q.f q.t = true) : D.Pairwise Ln := by
  have hh := List.pairwise_and_iff.2 ⟨hs, ha⟩
  refine hh.imp_of_mem ?_
  intro p q hp hq ⟨h1, h2⟩
  refine ln_of (hl p hp) (hl q hq) ?_ h2
  rcases Nat.lt_or_eq_of_le h1 with z | z
  · exact z
  · rw [apart_iff, z] at h2
    exact absurd (in_first _ _ (hl q hq).1 (hl q hq).2) h2.2
theorem ln_up {D : List AO} (h : D.Pairwise Ln) : D.Pairwise fun p q => p.f < q.f := h.imp fun {p q} z => by unfold Ln at z; omega
section
variable {D : List AO} {own : Nat → Option Int}
/-- those of the same epoch put together: all that is owned, as it is told -/
theorem joinJ_own (h : D.Pairwise Ln) (hl : ∀ o ∈ D, o.lt) (hn : ∀ o ∈ D, o.n = 0) (he : ∀ o ∈ D, 0 ≤ o.e ∧ o.e ≤ 9223372036854775807) (ho : Ow own D) : OwnL (joinJ false D) own ∧ (joinJ false D).length ≤ D.length := by
  obtain ⟨h1, h2, h3, h4⟩ := joinJ_ok (b := false) h hl
  have l3 := h3.lt hl
  refine ⟨⟨⟨l3, fun p hp => ?_, ln_up h1, h4, h1.imp_of_mem fun {p q} hp hq z => ln_apart (l3 p hp) (l3 q hq) z, fun p hp q hq hne e => ?_⟩, h3.nd hn, fun x hx e => ?_⟩, h3.len⟩
  · obtain ⟨o, ho', e, _⟩ := h3.c3 p hp
    rw [h3.nd hn p hp, ← e]
    have := he o ho'
    omega
  · intro z
    exact h2 p hp q hq hne e (congrArg Prod.snd z)
  · rw [ho x hx e]
    constructor
    · rintro ⟨o, ho', a, rfl⟩
      obtain ⟨p, hp, b, _, c⟩ := h3.c1 o ho'
      exact ⟨p, hp, c x hx a, b⟩
    · rintro ⟨p, hp, a, rfl⟩
      obtain ⟨o, ho', b, c⟩ := h3.c2 p hp x hx a
      exact ⟨o, ho', b, c⟩
/-- an arc, whatever its epoch -/
abbrev AO.zero (p : AO) : AO := ⟨p.f, p.t, 0, 0⟩
/-- those side by side put together, whatever their epochs -/
theorem joinJ_pieces (h : D.Pairwise Ln) (hl : ∀ o ∈ D, o.lt) (hn : ∀ o ∈ D, o.n = 0) (ho : Ow own D) :
    Arcs ((joinJ true D).map AO.zero) ∧ (∀ x, x < 18446744073709551616 → kn ((joinJ true D).map AO.zero) x = (own x).map fun _ => (0, 0)) ∧ (∀ p ∈ joinJ true D, p.n = 0 ∧ (∀ x y, x < 18446744073709551616 → inB p.f p.t x = true → own x = some y → y ≤ p.e) ∧ ∃ x, x < 18446744073709551616 ∧ inB p.f p.t x = true ∧ own x = some p.e) ∧ (joinJ true D).length ≤ D.length := by
  obtain ⟨h1, h2, h3, h4⟩ := joinJ_ok (b := true) h hl
  have l3 := h3.lt hl
  have hA : Arcs ((joinJ true D).map AO.zero) := by
    refine ⟨fun p hp => ?_, fun p hp => ?_, ?_, fun p hp => ?_, ?_, fun p hp q hq hne e => ?_⟩
    · obtain ⟨q, hq, rfl⟩ := List.mem_map.1 hp
      exact l3 q hq
    · obtain ⟨q, hq, rfl⟩ := List.mem_map.1 hp
      simp
    · exact List.pairwise_map.2 (ln_up h1)
    · obtain ⟨q, hq, rfl⟩ := List.mem_map.1 hp
      exact h4 q hq
    · exact List.pairwise_map.2 (h1.imp_of_mem fun {p q} hp hq z => ln_apart (l3 p hp) (l3 q hq) z)
    · obtain ⟨p', hp', rfl⟩ := List.mem_map.1 hp
      obtain ⟨q', hq', rfl⟩ := List.mem_map.1 hq
      exact fun _ => h2 p' hp' q' hq' hne e rfl
  refine ⟨hA, fun x hx => ?_, fun p hp => ⟨h3.nd hn p hp, fun x y hx hp1 hy => ?_, ?_⟩, h3.len⟩
  · cases hx2 : own x with
    | none =>
      cases hk : kn ((joinJ true D).map AO.zero) x with
      | none => rfl
      | some v =>
        obtain ⟨p, hp, a, _⟩ := kn_some hk
        obtain ⟨q, hq, rfl⟩ := List.mem_map.1 hp
        obtain ⟨o, ho', b, _⟩ := h3.c2 q hq x hx a
        have := (ho x hx o.e).2 ⟨o, ho', b, rfl⟩
        rw [hx2] at this
        cases this
    | some e =>
      obtain ⟨o, ho', a, rfl⟩ := (ho x hx e).1 hx2
      obtain ⟨p, hp, _, _, c⟩ := h3.c1 o ho'
      rw [hA.known (List.mem_map_of_mem hp) hx (c x hx a)]
      rfl
  · obtain ⟨o, ho', a, rfl⟩ := (ho x hx y).1 hy
    obtain ⟨q, hq, _, b, c⟩ := h3.c1 o ho'
    have hz : p.zero = q.zero := hA.one (List.mem_map_of_mem hp) (List.mem_map_of_mem hq) hx hp1 (c x hx a)
    have hpq : p = q := by
      rcases pw_or h1 hp hq with z | z | z
      · exact z
      · exfalso
        have e : p.zero.f = q.zero.f := congrArg AO.f hz
        simp only at e
        unfold Ln at z
        omega
      · exfalso
        have e : p.zero.f = q.zero.f := congrArg AO.f hz
        simp only at e
        unfold Ln at z
        omega
    rw [hpq]
    exact b
  · obtain ⟨o, ho', a, c⟩ := h3.c3 p hp
    have hf := in_first o.f o.t (hl o ho').1 (hl o ho').2
    exact ⟨o.f, (hl o ho').1, c _ (hl o ho').1 hf, (ho _ (hl o ho').1 _).2 ⟨o, ho', hf, a⟩⟩
end
end Go.Proofs.YthgndgoljchnfaaGreat
namespace Go.Proofs.YthgndgoljchnfaaGreat
open Go.RowKit

theorem nat_beq (a b : Nat) : ((a : Int) == (b : Int)) = (a == b) := by
  rw [Bool.eq_iff_iff, beq_iff_eq, beq_iff_eq]; omega
theorem below2 (w : World) (o1 o2 : Obj) : Below w.heap.size w ((w.alloc o1).alloc o2) := ((Below.refl _ _).alloc (Nat.le_refl _) o1).alloc (by simp) o2

set_option maxHeartbeats 400000 in
theorem whole_any (f t : Nat) (w : World) :
    Calls Tryz.prog 70 #[.agg #[.int .u64 f, .int .u64 t]] w fun e w' => e = .returned (.bool (f == t)) ∧ Below w.heap.size w w' := by
  have b1 := nat_beq f t
  generalize (f == t) = b at *
  go_enter Tryz.func70, Tryz.ntmps70
  go_wp2
  go_ret
  exact ⟨rfl, (Below.refl _ _).alloc (Nat.le_refl _) _⟩

end Go.Proofs.YthgndgoljchnfaaGreat
