/-
  What a hold owns, as lists: an arc more, an arc less, the way along an arc (no program is met here).
  append onto what the call owns: the old slice reads as it did; the new one lies in the old one's block or in a new one. No program is named here.
  Rows that somebody owns, turned in place: copy and clear as run equations, whatever the elements' size; one step of a region that draws where the run is known. No program is named here.
  A row of records: the cells of a list's elements, one behind the other. (Taken out of LinkBase.)
-/
import Derived.Test.YthgndgoljchnfaaGreatHg01
import Derived.Test.YthgndgoljchnfaaGreatHg03
import Derived.Laws.AppendOwn
import Derived.Deep.RegionLaw
import Derived.Laws.OwnMore
import Derived.Laws.CopyRow
import Derived.Lib.AppendZerosOnto
import Derived.Lib.Overlaps
import Derived.Lib.SliceRun
namespace Go.Proofs.YthgndgoljchnfaaGreat
open Go.RowKit

theorem own_none {l : List AO} {own : Nat → Option Int} (h : Ow own l) {x : Nat} (hx : x < 18446744073709551616) : own x = none ↔ ∀ o ∈ l, o.has x = false := by
  constructor
  · intro hn o ho
    by_cases z : o.has x = true
    · have := (h x hx o.e).2 ⟨o, ho, z, rfl⟩
      rw [hn] at this
      cases this
    · exact bool_not z
  · intro hn
    cases ho : own x with
    | none => rfl
    | some e =>
      obtain ⟨o, h1, h2, _⟩ := (h x hx e).1 ho
      rw [hn o h1] at h2
      cases h2
/-- may an arc be owned? -/
theorem may_iff {l : List AO} {own : Nat → Option Int} (h : OwnL l own) {f t : Nat} (hf : f < 18446744073709551616) (ht : t < 18446744073709551616) : (∀ o ∈ l, apartB o.f o.t f t = true) ↔ ∀ x, x < 18446744073709551616 → inB f t x = true → own x = none := by
  constructor
  · intro ha x hx hi
    rw [own_none h.ow hx]
    intro o ho
    have hl := h.arcs.lt o ho
    have := ha o ho
    rw [apart_comm] at this
    exact apart_in hf ht hl.1 hl.2 hx this hi
  · intro hn o ho
    have hl := h.arcs.lt o ho
    rw [apart_iff]
    refine ⟨fun z => ?_, fun z => ?_⟩
    · have := (own_none h.ow hf).1 (hn f hf (in_first f t hf ht)) o ho
      rw [show o.has f = true from z] at this
      cases this
    · have := (own_none h.ow hl.1).1 (hn o.f hl.1 z) o ho
      rw [h.arcs.first ho] at this
      cases this
theorem apart_perm {D L : List AO} (h : D.Perm L) (ha : L.Pairwise fun p q => apartB p.f p.t q.f q.t = true) : D.Pairwise fun p q => apartB p.f p.t q.f q.t = true :=
  (List.Perm.pairwise_iff (R := fun p q : AO => apartB p.f p.t q.f q.t = true) (fun {x y} z => by rw [apart_comm]; exact z) h).2 ha
/-- one arc more -/
theorem take_ok {l D : List AO} {own : Nat → Option Int} (h : OwnL l own) {f t : Nat} {ep : Int} (hf : f < 18446744073709551616) (ht : t < 18446744073709551616) (h0 : 0 ≤ ep) (h9 : ep ≤ 9223372036854775807) (hm : ∀ o ∈ l, apartB o.f o.t f t = true)
    (hp : D.Perm (l ++ [⟨f, t, 0, ep⟩])) (hs : D.Pairwise fun p q => p.f ≤ q.f) : OwnL (joinJ false D) (fun x => if inB f t x = true then some ep else own x) ∧ (joinJ false D).length ≤ l.length + 1 := by
  have hm2 : ∀ o, o ∈ D ↔ o ∈ l ∨ o = ⟨f, t, 0, ep⟩ := fun o => by rw [hp.mem_iff]; simp
  have hl : ∀ o ∈ D, o.lt := fun o ho => by
    rcases (hm2 o).1 ho with z | rfl
    · exact h.arcs.lt o z
    · exact ⟨hf, ht⟩
  have hap : (l ++ [(⟨f, t, 0, ep⟩ : AO)]).Pairwise fun p q : AO => apartB p.f p.t q.f q.t = true := by
    exact List.pairwise_append.2 ⟨h.arcs.apart, List.pairwise_singleton _ _, fun a ha b hb => by rw [List.mem_singleton.1 hb]; exact hm a ha⟩
  have hln := ln_sorted hl hs (apart_perm hp hap)
  have hlen : D.length = l.length + 1 := by rw [hp.length_eq]; simp
  have hown := (may_iff h hf ht).1 hm
  rw [← hlen]
  refine joinJ_own hln hl (fun o ho => ?_) (fun o ho => ?_) (fun x hx e => ?_)
  · rcases (hm2 o).1 ho with z | rfl
    · exact h.nd o z
    · rfl
  · rcases (hm2 o).1 ho with z | rfl
    · exact (h.arcs.rng o z).2.2
    · exact ⟨h0, h9⟩
  · by_cases hi : inB f t x = true
    · rw [if_pos hi]
      constructor
      · intro z
        exact ⟨⟨f, t, 0, ep⟩, (hm2 _).2 (.inr rfl), hi, Option.some.inj z⟩
      · rintro ⟨o, ho, a, rfl⟩
        rcases (hm2 o).1 ho with z | rfl
        · have := (own_none h.ow hx).1 (hown x hx hi) o z
          rw [a] at this
          cases this
        · rfl
    · rw [if_neg hi, h.ow x hx e]
      constructor
      · rintro ⟨o, ho, a, b⟩
        exact ⟨o, (hm2 o).2 (.inl ho), a, b⟩
      · rintro ⟨o, ho, a, b⟩
        rcases (hm2 o).1 ho with z | rfl
        · exact ⟨o, z, a, b⟩
        · exact absurd a hi
/-! cut at a point -/
def mayC (f t x : Nat) : Bool := !(x == f) && inB f t x
def splitO (x : Nat) (o : AO) : List AO := if mayC o.f o.t x = true then [⟨o.f, x, o.n, o.e⟩, ⟨x, o.t, o.n, o.e⟩] else [o]
def splitL (l : List AO) (x : Nat) : List AO := l.flatMap (splitO x)
theorem mayC_iff {f t x : Nat} : mayC f t x = true ↔ x ≠ f ∧ inB f t x = true := by simp [mayC]
/-- parts of an arc -/
structure PartsO (o : AO) (l : List AO) : Prop where
  lt : o.lt → ∀ p ∈ l, p.lt
  e : ∀ p ∈ l, p.e = o.e ∧ p.n = o.n
  sub : o.lt → ∀ p ∈ l, ∀ y, y < 18446744073709551616 → p.has y = true → o.has y = true
  all : o.lt → ∀ y, y < 18446744073709551616 → o.has y = true → ∃ p ∈ l, p.has y = true
  ap : o.lt → l.Pairwise fun p q => apartB p.f p.t q.f q.t = true
theorem splitO_ok (x : Nat) (o : AO) (hx : x < 18446744073709551616) : PartsO o (splitO x o) := by
  unfold splitO
  by_cases h : mayC o.f o.t x = true
  · rw [if_pos h]
    obtain ⟨h1, h2⟩ := mayC_iff.1 h
    have hb : o.lt → ∀ y, y < 18446744073709551616 → o.has y = ((⟨o.f, x, o.n, o.e⟩ : AO).has y || (⟨x, o.t, o.n, o.e⟩ : AO).has y) := fun hl y hy =>
      has_both (p := ⟨o.f, x, o.n, o.e⟩) (q := ⟨x, o.t, o.n, o.e⟩) ⟨hl.1, hx⟩ ⟨hx, hl.2⟩ rfl (cut_apart hl.1 hl.2 hx h1 h2).1 hy
    refine ⟨fun hl p hp => ?_, fun p hp => ?_, fun hl p hp y hy z => ?_, fun hl y hy z => ?_, fun hl => ?_⟩
    · simp only [List.mem_cons, List.not_mem_nil, or_false] at hp
      rcases hp with rfl | rfl
      · exact ⟨hl.1, hx⟩
      · exact ⟨hx, hl.2⟩
    · simp only [List.mem_cons, List.not_mem_nil, or_false] at hp
      rcases hp with rfl | rfl <;> exact ⟨rfl, rfl⟩
    · rw [hb hl y hy]
      simp only [List.mem_cons, List.not_mem_nil, or_false] at hp
      rcases hp with rfl | rfl
      · rw [z]; rfl
      · rw [z]; simp
    · rw [hb hl y hy, Bool.or_eq_true] at z
      rcases z with z | z
      · exact ⟨_, by simp, z⟩
      · exact ⟨_, List.mem_cons_of_mem _ (by simp), z⟩
    · refine List.pairwise_cons.2 ⟨fun q hq => ?_, by simp⟩
      rw [List.mem_singleton.1 hq]
      exact (cut_apart hl.1 hl.2 hx h1 h2).1
  · rw [if_neg h]
    exact ⟨fun hl p hp => by rw [List.mem_singleton.1 hp]; exact hl, fun p hp => by rw [List.mem_singleton.1 hp]; exact ⟨rfl, rfl⟩, fun _ p hp y _ z => by rw [List.mem_singleton.1 hp] at z; exact z, fun _ y _ z => ⟨o, by simp, z⟩, fun _ => by simp⟩
/-- a part that begins elsewhere has not the point at which it was cut -/
theorem splitO_cut {x : Nat} {o : AO} : ∀ p ∈ splitO x o, mayC p.f p.t x = false := by
  unfold splitO
  by_cases h : mayC o.f o.t x = true
  · rw [if_pos h]
    obtain ⟨h1, h2⟩ := mayC_iff.1 h
    intro p hp
    simp only [List.mem_cons, List.not_mem_nil, or_false] at hp
    apply bool_not
    rw [mayC_iff]
    rintro ⟨a, b⟩
    rcases hp with rfl | rfl
    · rw [show inB o.f x x = false from in_end (Ne.symm h1)] at b
      cases b
    · exact a rfl
  · rw [if_neg h]
    intro p hp
    rw [List.mem_singleton.1 hp]
    exact bool_not h
theorem splitO_keep {x z : Nat} {o : AO} (hx : x < 18446744073709551616) (hz : z < 18446744073709551616) (hl : o.lt) (hc : mayC o.f o.t z = false) : ∀ p ∈ splitO x o, mayC p.f p.t z = false := by
  intro p hp
  apply bool_not
  rw [mayC_iff]
  rintro ⟨a, b⟩
  have hs := (splitO_ok x o hx).sub hl p hp z hz b
  have ho : z = o.f := by
    by_cases e : z = o.f
    · exact e
    · have := mayC_iff.2 ⟨e, hs⟩
      rw [hc] at this
      cases this
  unfold splitO at hp
  by_cases h : mayC o.f o.t x = true
  · rw [if_pos h] at hp
    obtain ⟨h1, h2⟩ := mayC_iff.1 h
    simp only [List.mem_cons, List.not_mem_nil, or_false] at hp
    rcases hp with rfl | rfl
    · exact a ho
    · have ca := (cut_apart hl.1 hl.2 hx h1 h2).1
      rw [apart_iff] at ca
      rw [ho] at b
      exact ca.2 b
  · rw [if_neg h] at hp
    rw [List.mem_singleton.1 hp] at a
    exact a ho
theorem apart_sub {o p : AO} {a b : AO} (ho : o.lt) (hp : p.lt) (ha : a.lt) (hb : b.lt) (h : apartB o.f o.t p.f p.t = true) (h1 : ∀ y, y < 18446744073709551616 → a.has y = true → o.has y = true) (h2 : ∀ y, y < 18446744073709551616 → b.has y = true → p.has y = true) : apartB a.f a.t b.f b.t = true := by
  have key : ∀ y, y < 18446744073709551616 → o.has y = true → p.has y = true → False := fun y hy z1 z2 => by
    have := apart_in ho.1 ho.2 hp.1 hp.2 hy h z1
    rw [show inB p.f p.t y = true from z2] at this
    cases this
  rw [apart_iff]
  exact ⟨fun z => key b.f hb.1 (h1 _ hb.1 z) (h2 _ hb.1 (in_first _ _ hb.1 hb.2)), fun z => key a.f ha.1 (h1 _ ha.1 (in_first _ _ ha.1 ha.2)) (h2 _ ha.1 z)⟩
/-- a list of arcs that do not meet, as of which epochs they own -/
structure RawL (l : List AO) (own : Nat → Option Int) : Prop where
  lt : ∀ p ∈ l, p.lt
  nd : ∀ p ∈ l, p.n = 0
  e : ∀ p ∈ l, 0 ≤ p.e ∧ p.e ≤ 9223372036854775807
  ap : l.Pairwise fun p q => apartB p.f p.t q.f q.t = true
  ow : Ow own l
theorem OwnL.raw {l : List AO} {own : Nat → Option Int} (h : OwnL l own) : RawL l own := ⟨h.arcs.lt, h.nd, fun p hp => (h.arcs.rng p hp).2.2, h.arcs.apart, h.ow⟩
theorem splitL_len {x : Nat} (hx : x < 18446744073709551616) : ∀ {l : List AO}, (∀ p ∈ l, p.lt) → l.Pairwise (fun p q => apartB p.f p.t q.f q.t = true) → (splitL l x).length ≤ l.length + 1 ∧ ((∀ p ∈ l, p.has x = false) → (splitL l x).length = l.length)
  | [], _, _ => ⟨by simp [splitL], fun _ => rfl⟩
  | o :: l, hl, h => by
    obtain ⟨h1, h2⟩ := List.pairwise_cons.1 h
    obtain ⟨i1, i2⟩ := splitL_len hx (fun p hp => hl p (List.mem_cons_of_mem _ hp)) h2
    have e : splitL (o :: l) x = splitO x o ++ splitL l x := rfl
    rw [e, List.length_append]
    have ho := hl o (by simp)
    constructor
    · by_cases c : mayC o.f o.t x = true
      · have hx2 := (mayC_iff.1 c).2
        rw [i2 (fun p hp => apart_in ho.1 ho.2 (hl p (by simp [hp])).1 (hl p (by simp [hp])).2 hx (h1 p hp) hx2)]
        rw [splitO, if_pos c, List.length_cons]
        simp only [List.length_cons, List.length_nil]
        omega
      · rw [splitO, if_neg c]
        simp only [List.length_cons, List.length_nil]
        omega
    · intro hn
      have c : ¬ mayC o.f o.t x = true := fun z => by
        have := hn o (by simp)
        rw [show o.has x = true from (mayC_iff.1 z).2] at this
        cases this
      rw [i2 (fun p hp => hn p (by simp [hp]))]
      rw [splitO, if_neg c]
      simp only [List.length_cons, List.length_nil]
      omega
theorem splitL_ok {x : Nat} (hx : x < 18446744073709551616) {l : List AO} {own : Nat → Option Int} (h : RawL l own) : RawL (splitL l x) own := by
  have hm : ∀ p, p ∈ splitL l x ↔ ∃ o ∈ l, p ∈ splitO x o := fun p => List.mem_flatMap
  refine ⟨fun p hp => ?_, fun p hp => ?_, fun p hp => ?_, ?_, fun y hy e => ?_⟩
  · obtain ⟨o, ho, hp⟩ := (hm p).1 hp
    exact (splitO_ok x o hx).lt (h.lt o ho) p hp
  · obtain ⟨o, ho, hp⟩ := (hm p).1 hp
    rw [((splitO_ok x o hx).e p hp).2]
    exact h.nd o ho
  · obtain ⟨o, ho, hp⟩ := (hm p).1 hp
    rw [((splitO_ok x o hx).e p hp).1]
    exact h.e o ho
  · refine List.pairwise_flatMap.2 ⟨fun o ho => (splitO_ok x o hx).ap (h.lt o ho), ?_⟩
    refine h.ap.imp_of_mem ?_
    intro o q ho hq z a ha b hb
    exact apart_sub (h.lt o ho) (h.lt q hq) ((splitO_ok x o hx).lt (h.lt o ho) a ha) ((splitO_ok x q hx).lt (h.lt q hq) b hb) z ((splitO_ok x o hx).sub (h.lt o ho) a ha) ((splitO_ok x q hx).sub (h.lt q hq) b hb)
  · rw [h.ow y hy e]
    constructor
    · rintro ⟨o, ho, a, rfl⟩
      obtain ⟨p, hp, b⟩ := (splitO_ok x o hx).all (h.lt o ho) y hy a
      exact ⟨p, (hm p).2 ⟨o, ho, hp⟩, b, ((splitO_ok x o hx).e p hp).1⟩
    · rintro ⟨p, hp, a, rfl⟩
      obtain ⟨o, ho, hp⟩ := (hm p).1 hp
      exact ⟨o, ho, (splitO_ok x o hx).sub (h.lt o ho) p hp y hy a, (((splitO_ok x o hx).e p hp).1).symm⟩
/-- the parts of those that lie apart from an arc -/
def outL (l : List AO) (f t : Nat) : List AO := (splitL (splitL l f) t).filter fun p => !inB f t p.f
/-- a part that was cut at both of an arc's ends lies in it, or apart from it -/
theorem part_out {p : AO} {f t y : Nat} (hp : p.lt) (hf : f < 18446744073709551616) (ht : t < 18446744073709551616) (hy : y < 18446744073709551616) (c1 : mayC p.f p.t f = false) (c2 : mayC p.f p.t t = false) (h : p.has y = true) : inB f t y = inB f t p.f := by
  have c1' : ¬ (f ≠ p.f ∧ inB p.f p.t f = true) := fun z => by have := mayC_iff.2 z; rw [c1] at this; cases this
  have c2' : ¬ (t ≠ p.f ∧ inB p.f p.t t = true) := fun z => by have := mayC_iff.2 z; rw [c2] at this; cases this
  have h' : inB p.f p.t y = true := h
  clear c1 c2 h
  rw [in_iff] at c1' c2' h'
  rw [Bool.eq_iff_iff, in_iff, in_iff]
  obtain ⟨a, b⟩ := hp
  have h1 := sub64_cases hf a
  have h2 := sub64_cases ht a
  have h3 := sub64_cases b a
  have h4 := sub64_cases hy a
  have h5 := sub64_cases hy hf
  have h6 := sub64_cases ht hf
  have h7 := sub64_cases a hf
  omega
/-- an arc less -/
theorem lose_ok {l D : List AO} {own : Nat → Option Int} (h : OwnL l own) {f t : Nat} (hf : f < 18446744073709551616) (ht : t < 18446744073709551616) (hp : D.Perm (outL l f t)) (hs : D.Pairwise fun p q => p.f ≤ q.f) :
    OwnL (joinJ false D) (fun x => if inB f t x = true then none else own x) ∧ (joinJ false D).length ≤ l.length + 2 := by
  have r1 := splitL_ok hf h.raw
  have r2 := splitL_ok ht r1
  have hm : ∀ o, o ∈ D ↔ o ∈ splitL (splitL l f) t ∧ inB f t o.f = false := fun o => by rw [hp.mem_iff, outL, List.mem_filter]; simp
  have hcut : ∀ o ∈ splitL (splitL l f) t, mayC o.f o.t f = false ∧ mayC o.f o.t t = false := fun o ho => by
    obtain ⟨q, hq, ho⟩ := List.mem_flatMap.1 ho
    obtain ⟨r, hr, hq'⟩ := List.mem_flatMap.1 hq
    exact ⟨splitO_keep ht hf (r1.lt q hq) (splitO_cut q hq') o ho, splitO_cut o ho⟩
  have hl : ∀ o ∈ D, o.lt := fun o ho => r2.lt o ((hm o).1 ho).1
  have hlen : D.length ≤ l.length + 2 := by
    rw [hp.length_eq]
    have a := (splitL_len hf h.arcs.lt h.arcs.apart).1
    have b := (splitL_len ht r1.lt r1.ap).1
    have c := List.length_filter_le (fun p : AO => !inB f t p.f) (splitL (splitL l f) t)
    show ((splitL (splitL l f) t).filter fun p => !inB f t p.f).length ≤ _
    omega
  have hln := ln_sorted hl hs (apart_perm hp (r2.ap.filter _))
  refine ⟨?_, Nat.le_trans (joinJ_ok (b := false) hln hl).2.2.1.len hlen⟩
  refine (joinJ_own hln hl (fun o ho => r2.nd o ((hm o).1 ho).1) (fun o ho => r2.e o ((hm o).1 ho).1) (fun x hx e => ?_)).1
  by_cases hi : inB f t x = true
  · rw [if_pos hi]
    constructor
    · intro z
      cases z
    · rintro ⟨o, ho, a, _⟩
      obtain ⟨k1, k2⟩ := (hm o).1 ho
      have := part_out (r2.lt o k1) hf ht hx (hcut o k1).1 (hcut o k1).2 a
      rw [hi, k2] at this
      cases this
  · rw [if_neg hi, r2.ow x hx e]
    constructor
    · rintro ⟨o, ho, a, b⟩
      refine ⟨o, (hm o).2 ⟨ho, ?_⟩, a, b⟩
      rw [← part_out (r2.lt o ho) hf ht hx (hcut o ho).1 (hcut o ho).2 a]
      exact bool_not hi
    · rintro ⟨o, ho, a, b⟩
      exact ⟨o, ((hm o).1 ho).1, a, b⟩
/-! the way along an arc -/
/-- how many points an arc has -/
def szN (f t : Nat) : Nat := if f = t then 18446744073709551616 else sub64 t f
theorem szN_pos {f t : Nat} (hf : f < 18446744073709551616) (ht : t < 18446744073709551616) : 0 < szN f t ∧ szN f t ≤ 18446744073709551616 := by
  unfold szN
  split
  · omega
  · have := sub64_cases ht hf
    omega
abbrev ptN (f i : Nat) : Nat := add64 f i
theorem ptN_lt (f i : Nat) : ptN f i < 18446744073709551616 := Nat.mod_lt _ (by omega)
theorem ptN_cases {a b : Nat} (ha : a < 18446744073709551616) (hb : b < 18446744073709551616) : (a + b < 18446744073709551616 ∧ ptN a b = a + b) ∨ (18446744073709551616 ≤ a + b ∧ ptN a b = a + b - 18446744073709551616) := by
  unfold ptN add64
  omega
theorem ptN_zero {f : Nat} (hf : f < 18446744073709551616) : ptN f 0 = f := by unfold ptN add64; omega
/-- the first c points of an arc are owned, e is the greatest epoch -/
structure Went (own : Nat → Option Int) (f c : Nat) (e : Int) : Prop where
  up : ∀ i, i < c → ∃ y, own (ptN f i) = some y ∧ y ≤ e
  at0 : c = 0 → e = 0
  is : 0 < c → ∃ i, i < c ∧ own (ptN f i) = some e
theorem Went.start (own : Nat → Option Int) (f : Nat) : Went own f 0 0 := ⟨fun _ hi => absurd hi (Nat.not_lt_zero _), fun _ => rfl, fun h => absurd h (Nat.lt_irrefl _)⟩
theorem Went.step {own : Nat → Option Int} {f c d : Nat} {e oe : Int} (h : Went own f c e) (h0 : 0 ≤ oe) (hd : c < d) (hp : ∀ i, c ≤ i → i < d → own (ptN f i) = some oe) : Went own f d (max e oe) := by
  refine ⟨fun i hi => ?_, fun z => by omega, fun _ => ?_⟩
  · by_cases k : i < c
    · obtain ⟨y, a, b⟩ := h.up i k
      exact ⟨y, a, by omega⟩
    · exact ⟨oe, hp i (by omega) hi, by omega⟩
  · by_cases k : oe ≤ e
    · by_cases k0 : 0 < c
      · obtain ⟨i, a, b⟩ := h.is k0
        exact ⟨i, by omega, by rw [b]; congr 1; omega⟩
      · have := h.at0 (by omega)
        exact ⟨c, hd, by rw [hp c (Nat.le_refl _) hd]; congr 1; omega⟩
    · exact ⟨c, hd, by rw [hp c (Nat.le_refl _) hd]; congr 1; omega⟩
/-- nothing of the rest lies behind the end of the one that has its first point -/
theorem rest_all {o : AO} {f t c i : Nat} (ho : o.lt) (hf : f < 18446744073709551616) (ht : t < 18446744073709551616) (hc : c < szN f t) (h : o.has (ptN f c) = true) (hm : mayC (ptN f c) t o.t = false) (h1 : c ≤ i) (h2 : i < szN f t) : o.has (ptN f i) = true := by
  have hm' : ¬ (o.t ≠ ptN f c ∧ inB (ptN f c) t o.t = true) := fun z => by have := mayC_iff.2 z; rw [hm] at this; cases this
  have h' : inB o.f o.t (ptN f c) = true := h
  show inB o.f o.t (ptN f i) = true
  clear h hm
  have hn := (szN_pos hf ht).2
  have a1 := ptN_cases hf (show c < 18446744073709551616 by omega)
  have a2 := ptN_cases hf (show i < 18446744073709551616 by omega)
  have l1 := ptN_lt f c
  have l2 := ptN_lt f i
  generalize ptN f c = y at *
  generalize ptN f i = z at *
  unfold szN at hc h2 hn
  rw [in_iff] at h' hm' ⊢
  obtain ⟨b1, b2⟩ := ho
  have s1 := sub64_cases l1 b1
  have s2 := sub64_cases l2 b1
  have s3 := sub64_cases b2 b1
  have s4 := sub64_cases b2 l1
  have s5 := sub64_cases ht l1
  have s6 := sub64_cases ht hf
  split at hc <;> rename_i hft <;> simp only [hft, if_true, if_false] at h2 hn <;> omega
theorem rest_more {o : AO} {f t c : Nat} (ho : o.lt) (hf : f < 18446744073709551616) (ht : t < 18446744073709551616) (hc : c < szN f t) (h : o.has (ptN f c) = true) (hm : mayC (ptN f c) t o.t = true) :
    ∃ d, c < d ∧ d < szN f t ∧ o.t = ptN f d ∧ ∀ i, c ≤ i → i < d → o.has (ptN f i) = true := by
  obtain ⟨m1, m2⟩ := mayC_iff.1 hm
  have h' : inB o.f o.t (ptN f c) = true := h
  clear h hm
  have hn := (szN_pos hf ht).2
  have l1 := ptN_lt f c
  obtain ⟨b1, b2⟩ := ho
  have a1 := ptN_cases hf (show c < 18446744073709551616 by omega)
  have s4 := sub64_cases b2 l1
  have s5 := sub64_cases ht l1
  have s6 := sub64_cases ht hf
  have s1 := sub64_cases l1 b1
  have s3 := sub64_cases b2 b1
  have hd : c + sub64 o.t (ptN f c) < szN f t := by
    generalize ptN f c = y at *
    rw [in_iff] at h' m2
    unfold szN at hc ⊢
    split at hc <;> rename_i hft <;> simp only [hft, if_true, if_false] <;> omega
  have a3 := ptN_cases hf (show c + sub64 o.t (ptN f c) < 18446744073709551616 by omega)
  refine ⟨c + sub64 o.t (ptN f c), by omega, hd, ?_, fun i h1 h2 => ?_⟩
  · show o.t = ptN f (c + sub64 o.t (ptN f c))
    generalize ptN f c = y at *
    omega
  · show inB o.f o.t (ptN f i) = true
    have a2 := ptN_cases hf (show i < 18446744073709551616 by omega)
    have l2 := ptN_lt f i
    have s2 := sub64_cases l2 b1
    generalize ptN f c = y at *
    generalize ptN f i = z at *
    rw [in_iff] at h' m2 ⊢
    omega
/-- what the way along an arc tells -/
def Followed (own : Nat → Option Int) (f t to_ : Nat) (e : Int) (all : Bool) : Prop :=
  (all = true ∧ to_ = t ∧ Went own f (szN f t) e) ∨ (all = false ∧ ∃ c, c < szN f t ∧ to_ = ptN f c ∧ own (ptN f c) = none ∧ Went own f c e)
theorem in_pt {f t x : Nat} (hf : f < 18446744073709551616) (ht : t < 18446744073709551616) (hx : x < 18446744073709551616) : inB f t x = true ↔ ∃ i, i < szN f t ∧ x = ptN f i := by
  rw [in_iff]
  unfold szN
  have s1 := sub64_cases hx hf
  have s2 := sub64_cases ht hf
  constructor
  · intro h
    refine ⟨sub64 x f, ?_, ?_⟩
    · split <;> omega
    · have := ptN_cases hf (sub64_lt x f)
      show x = ptN f (sub64 x f)
      omega
  · rintro ⟨i, hi, he⟩
    have hi2 : i < 18446744073709551616 := by split at hi <;> omega
    have := ptN_cases hf hi2
    have he' : x = ptN f i := he
    split at hi <;> omega
theorem Followed.yes {own : Nat → Option Int} {f t to_ : Nat} {e : Int} (hf : f < 18446744073709551616) (ht : t < 18446744073709551616) (h : Followed own f t to_ e true) : (∀ x, x < 18446744073709551616 → inB f t x = true → own x ≠ none) ∧ Greatest own (fun x => inB f t x = true) e := by
  rcases h with ⟨_, _, h⟩ | ⟨h, _⟩
  · refine ⟨fun x hx hi => ?_, fun x y hx hi hy => ?_, ?_⟩
    · obtain ⟨i, a, rfl⟩ := (in_pt hf ht hx).1 hi
      obtain ⟨y, b, _⟩ := h.up i a
      rw [b]
      simp
    · obtain ⟨i, a, rfl⟩ := (in_pt hf ht hx).1 hi
      obtain ⟨y', b, c⟩ := h.up i a
      rw [hy] at b
      obtain rfl := Option.some.inj b
      exact c
    · obtain ⟨i, a, b⟩ := h.is (szN_pos hf ht).1
      exact ⟨ptN f i, ptN_lt _ _, (in_pt hf ht (ptN_lt _ _)).2 ⟨i, a, rfl⟩, b⟩
  · cases h
theorem Followed.no {own : Nat → Option Int} {f t to_ : Nat} {e : Int} (hf : f < 18446744073709551616) (ht : t < 18446744073709551616) (h : Followed own f t to_ e false) : ∃ x, x < 18446744073709551616 ∧ inB f t x = true ∧ own x = none := by
  rcases h with ⟨h, _⟩ | ⟨_, c, a, _, b, _⟩
  · cases h
  · exact ⟨ptN f c, ptN_lt _ _, (in_pt hf ht (ptN_lt _ _)).2 ⟨c, a, rfl⟩, b⟩
end Go.Proofs.YthgndgoljchnfaaGreat
namespace Go.Proofs.YthgndgoljchnfaaGreat
open Go.RowKit

/-- the new slice lies in the old one's block, or in a new one (or is nil) -/
def SameOrNew (w : World) (v v' : Value) : Prop := ∀ q, v'.ownBlock = some q → v.ownBlock = some q ∨ w.heap.size ≤ q
theorem run_append_old {P : Program} (w : World) (base : Nat) (t ty e : TypeId) (i : TypeInfo) (z : Value) (size bytes : Nat) (ht : P.underlying t = some (.slice e)) (hi : P.info? e = some i) (hz : i.zero = some z)
    (hsize : i.size = size) (hby : i.bytes = bytes) (hzs : z.cells.size = size) (hsz : 0 < size)
    (v : Value) (n : Nat) (xs : List Value) (hown : w.ownsRow base e size v n xs)
    (a : Addr) (m c : Nat) (news : List Value) (hl : news.length = m * size) (hnews : ∀ j u, news[j]? = some u → w.cell? (a.add j) = some u) (h1 : ∀ u ∈ news, u.oneCell' = true)
    (h63 : n + m ≤ maxLen) (hbytes : (n + m) * bytes ≤ 140737488355328) (hbase : base ≤ w.heap.size) :
    ∃ v' w', (Builtin.append_ #[t, t] ty #[v, .slice (some a) m c]).run P w = .ok v' w' ∧ w'.ownsRow base e size v' (n + m) (xs ++ news) ∧ w.grownBy w' v.ownBlock ∧
      (v' = .slice none 0 0 ↔ v = .slice none 0 0 ∧ m = 0) ∧ w'.ownsRow base e size v n xs ∧ SameOrNew w v v' := by
  obtain ⟨v', w', hr, ho, hg, hnil⟩ := run_append_own (P := P) w base t ty e i z size bytes ht hi hz hsize hby hzs hsz v n xs hown a m c news hl hnews h1 h63 hbytes hbase
  refine ⟨v', w', hr, ho, hg, hnil, ?_⟩
  have hsmall : n + m ≤ 9223372036854775807 := by simp only [maxLen] at h63; omega
  subst hsize hby
  rcases hown.2 with ⟨rfl, rfl⟩ | ⟨g, cap, cur, rfl, hbg, hgg, hnc, hcm, hcs, htake⟩
  · have hx : xs = [] := List.eq_nil_of_length_eq_zero (by simpa using hown.1)
    subst hx
    refine ⟨World.ownsRow_nil _ _ _ _, fun q hq => ?_⟩
    by_cases hm : m = 0
    · rw [hnil.2 ⟨rfl, hm⟩] at hq; cases hq
    · have hr2 := run_append_nil (P := P) w t ty e i z ht hi hz a m c news hl hnews (by omega) (by omega) (by have hb := hbytes; simp only [Nat.zero_add] at hb; omega)
      rw [hr2] at hr
      injection hr with e1 e2
      subst e1
      injection hq with hq
      exact .inr (by have h9 : w.heap.size = q := hq; omega)
  · by_cases hroom : n + m ≤ cap
    · have hfit : n * i.size + news.length ≤ cur.size := by rw [hl, hcs, ← Nat.add_mul]; exact Nat.mul_le_mul_right _ hroom
      have hr2 := run_append_room (P := P) w t ty e i ht hi g n cap cur hgg a m c news hl hnews h1 hroom hfit
      rw [hr2] at hr
      injection hr with e1 e2
      subst e1
      refine ⟨?_, fun q hq => .inl hq⟩
      rcases ho.2 with ⟨h0, _⟩ | ⟨g', cap', cur', h0, hb', hg', hn', hm', hs', ht'⟩
      · cases h0
      · injection h0 with k1 k2 k3
        injection k1 with k1
        injection k1 with k1
        subst k1 k3
        refine ⟨hown.1, .inr ⟨g, cap, cur', rfl, hbg, hg', hnc, hcm, hs', ?_⟩⟩
        have h2 : n * i.size ≤ (n + m) * i.size := Nat.mul_le_mul_right _ (by omega)
        have h3 := congrArg (List.take (n * i.size)) ht'
        rw [List.take_take, Nat.min_eq_left h2, ← hown.1, List.take_left] at h3
        rw [← hown.1]
        exact h3
    · have holds : ∀ j u, xs[j]? = some u → w.cell? ((⟨g, 0, none⟩ : Addr).add j) = some u := hown.cells (g := g) rfl
      have hr2 := run_append_grow (P := P) w t ty e i z ht hi hz ⟨g, 0, none⟩ n cap xs hown.1 holds a m c news hl hnews (by omega) (by omega) (growslice_fits (by omega) hbytes)
      rw [hr2] at hr
      injection hr with e1 e2
      subst e1 e2
      refine ⟨?_, fun q hq => ?_⟩
      · refine ⟨hown.1, .inr ⟨g, cap, cur, rfl, hbg, ?_, hnc, hcm, hcs, htake⟩⟩
        have hlt : g < w.heap.size := (hown.lt g rfl).2
        rw [Below.heap_alloc w.drew _ g hlt]
        exact hgg
      · injection hq with hq
        exact .inr (by have h9 : w.heap.size = q := hq; omega)

theorem wp_append_old {P : Program} {w : World} {o : Oper} {a : Act} {K : Act → World → Prop} {Q : Exit → Act → World → Prop} (s x : Operand) (t : TypeId)
    (ho : o.op = .call { callee := .builtin .append, args := #[s, x], argTypes := #[t, t] })
    (base : Nat) (e : TypeId) (i : TypeInfo) (z : Value) (size bytes : Nat) (ht : P.underlying t = some (.slice e)) (hi : P.info? e = some i) (hz : i.zero = some z)
    (hsize : i.size = size) (hby : i.bytes = bytes) (hzs : z.cells.size = size) (hsz : 0 < size)
    (v : Value) (n : Nat) (xs : List Value) (hs : a.eval s = v) (hown : w.ownsRow base e size v n xs)
    (ad : Addr) (m c : Nat) (news : List Value) (hx : a.eval x = .slice (some ad) m c) (hl : news.length = m * size) (hnews : ∀ j u, news[j]? = some u → w.cell? (ad.add j) = some u) (h1 : ∀ u ∈ news, u.oneCell' = true)
    (h63 : n + m ≤ maxLen) (hbytes : (n + m) * bytes ≤ 140737488355328) (hbase : base ≤ w.heap.size)
    (h : ∀ v' w', w'.ownsRow base e size v' (n + m) (xs ++ news) → w.grownBy w' v.ownBlock → (v' = .slice none 0 0 ↔ v = .slice none 0 0 ∧ m = 0) → w'.ownsRow base e size v n xs → SameOrNew w v v' → K (a.put o.dst v') w') : o.wp P a w K Q := by
  obtain ⟨v', w', hr, h2, h3, h4, h5, h6⟩ := run_append_old (P := P) w base t o.type e i z size bytes ht hi hz hsize hby hzs hsz v n xs hown ad m c news hl hnews h1 h63 hbytes hbase
  unfold Oper.wp execOp
  simp only [ho, resolve, invoke, builtin, Sem.run_bind, Sem.run_pure, Result.andThen_ok, List.map_toArray, List.map_cons, List.map_nil, hs, hx, hr]
  exact h v' w' h2 h3 h4 h5 h6
theorem wpList_append_old {P : Program} {w : World} {ops : Array Oper} {rest : List Oper} {o : Oper} {a : Act} {Q : Exit → Act → World → Prop} (hgd : o.guard = none) (s x : Operand) (t : TypeId)
    (ho : o.op = .call { callee := .builtin .append, args := #[s, x], argTypes := #[t, t] })
    (base : Nat) (e : TypeId) (i : TypeInfo) (z : Value) (size bytes : Nat) (ht : P.underlying t = some (.slice e)) (hi : P.info? e = some i) (hz : i.zero = some z)
    (hsize : i.size = size) (hby : i.bytes = bytes) (hzs : z.cells.size = size) (hsz : 0 < size)
    (v : Value) (n : Nat) (xs : List Value) (hs : a.eval s = v) (hown : w.ownsRow base e size v n xs)
    (ad : Addr) (m c : Nat) (news : List Value) (hx : a.eval x = .slice (some ad) m c) (hl : news.length = m * size) (hnews : ∀ j u, news[j]? = some u → w.cell? (ad.add j) = some u) (h1 : ∀ u ∈ news, u.oneCell' = true)
    (h63 : n + m ≤ maxLen) (hbytes : (n + m) * bytes ≤ 140737488355328) (hbase : base ≤ w.heap.size)
    (h : ∀ v' w', w'.ownsRow base e size v' (n + m) (xs ++ news) → w.grownBy w' v.ownBlock → (v' = .slice none 0 0 ↔ v = .slice none 0 0 ∧ m = 0) → w'.ownsRow base e size v n xs → SameOrNew w v v' → wpList P ops Q rest (a.put o.dst v') w') : wpList P ops Q (o :: rest) a w :=
  wpList_plain hgd fun _ hK => wp_append_old s x t ho base e i z size bytes ht hi hz hsize hby hzs hsz v n xs hs hown ad m c news hx hl hnews h1 h63 hbytes hbase fun v' w' h2 h3 h4 h5 h6 => hK _ _ (h v' w' h2 h3 h4 h5 h6)
end Go.Proofs.YthgndgoljchnfaaGreat
namespace Go.Proofs.YthgndgoljchnfaaGreat
open Go.RowKit

theorem own_take {w : World} {base e size n c g : Nat} {xs : List Value} (h : w.ownsRow base e size (.slice (some ⟨g, 0, none⟩) n c) n xs) (i : Nat) (hi : i ≤ n) :
    w.ownsRow base e size (.slice (some ⟨g, 0, none⟩) i c) i (xs.take (i * size)) := by
  have hm : i * size ≤ n * size := Nat.mul_le_mul_right _ hi
  refine ⟨by rw [List.length_take, h.1]; omega, ?_⟩
  rcases h.2 with ⟨h0, _⟩ | ⟨g', cap, cur, hv, hb, hg, hn, hc, hs, ht⟩
  · cases h0
  · injection hv with h1 h2 h3
    injection h1 with h1
    injection h1 with h1
    subst h1 h3
    exact .inr ⟨g, c, cur, rfl, hb, hg, by omega, hc, hs, by rw [← ht, List.take_take, Nat.min_eq_left hm]⟩
/-- what an owned row is in memory -/
theorem own_raw {w : World} {base e size n c g : Nat} {xs : List Value} (h : w.ownsRow base e size (.slice (some ⟨g, 0, none⟩) n c) n xs) :
    ∃ cur, w.heap[g]? = some (.cells cur e (0, 0)) ∧ n ≤ c ∧ c ≤ maxLen ∧ cur.size = c * size ∧ cur.toList.take (n * size) = xs ∧ base ≤ g := by
  rcases h.2 with ⟨h0, _⟩ | ⟨g', cap, cur, hv, hb, hg, hn, hc, hs, ht⟩
  · cases h0
  · injection hv with h1 h2 h3
    injection h1 with h1
    injection h1 with h1
    subst h1 h3
    exact ⟨cur, hg, hn, hc, hs, ht, hb⟩
theorem own_of_raw {w : World} {base e size n c g : Nat} {xs : List Value} {cur : Array Value} (hg : w.heap[g]? = some (.cells cur e (0, 0))) (hb : base ≤ g) (hn : n ≤ c) (hc : c ≤ maxLen) (hs : cur.size = c * size)
    (ht : cur.toList.take (n * size) = xs) : w.ownsRow base e size (.slice (some ⟨g, 0, none⟩) n c) n xs := by
  have hm : n * size ≤ c * size := Nat.mul_le_mul_right _ hn
  exact ⟨by rw [← ht, List.length_take, Array.length_toList, hs]; omega, .inr ⟨g, c, cur, rfl, hb, hg, hn, hc, hs, ht⟩⟩
theorem grown_setRow (w : World) (g : Nat) (cs : Array Value) : w.grownBy (w.setRow g cs) (some g) :=
  ⟨rfl, rfl, rfl, by simp, fun k _ hk => setRow_other w g k cs (fun e => hk (by rw [e]))⟩
theorem grown_trans {row : Option Nat} {a b c : World} (h : a.grownBy b row) (k : b.grownBy c row) : a.grownBy c row :=
  ⟨k.os.trans h.os, k.tape.trans h.tape, k.output.trans h.output, Nat.le_trans h.size k.size, fun i hi hn => (k.block i (Nat.lt_of_lt_of_le hi h.size) hn).trans (h.block i hi hn)⟩
theorem grown_drew {row : Option Nat} {a b : World} (h : a.grownBy b row) : a.grownBy b.drew row := ⟨h.os, h.tape, h.output, h.size, h.block⟩
theorem grown_refl (row : Option Nat) (a : World) : a.grownBy a row := ⟨rfl, rfl, rfl, Nat.le_refl _, fun _ _ _ => rfl⟩

theorem run_copy_rowN {P : Program} (w : World) (dT sT ty elem : TypeId) (s g o dLen dCap : Nat) (a : Addr) (sLen sCap : Nat) (cur : Array Value) (t : TypeId) (cs : List Value)
    (hu : P.underlying dT = some (.slice elem)) (hs : (P.info? elem).map (·.size) = some s)
    (hg : w.heap[g]? = some (.cells cur t (0, 0))) (hn : cs.length = Nat.min sLen dLen * s)
    (hsrc : ∀ j v, cs[j]? = some v → w.cell? (a.add j) = some v) (hfit : o + cs.length ≤ cur.size) (h1 : ∀ v ∈ cs, v.oneCell' = true) :
    (Builtin.copy_ #[dT, sT] ty #[.slice (some ⟨g, o, none⟩) dLen dCap, .slice (some a) sLen sCap]).run P w =
      .ok (goInt (Nat.min sLen dLen : Nat)) (w.setRow g (cur.toList.take o ++ cs ++ cur.toList.drop (o + cs.length)).toArray) := by
  have hl := run_loadCells_list (P := P) w a cs hsrc
  have hst := run_storeCells_at P g o t cs 0 cur w hg (by simpa using hfit) h1
  cases hq : P.info? elem with
  | none => simp [hq] at hs
  | some i =>
    have hi : i.size = s := by simpa [hq] using hs
    simp [Builtin.copy_, run_underlying hu, Builtin.lenOf, Builtin.firstCells, sizeOf, typeInfo, hq, hi, ← hn, hl, hst]
theorem run_clear_rowN {P : Program} (w : World) (t e ty : TypeId) (z : Value) (ht : P.underlying t = some (.slice e)) (hv : ∀ w, (zeroValue e).run P w = .ok z w) (h1 : ∀ u ∈ z.cells, u.oneCell' = true)
    (g o n c : Nat) (cur : Array Value) (tt : TypeId) (hn : 0 < n) (hg : w.heap[g]? = some (.cells cur tt (0, 0))) (hfit : o + n * z.cells.size ≤ cur.size) :
    (Builtin.clear_ #[t] ty #[.slice (some ⟨g, o, none⟩) n c]).run P w =
      .ok (.tuple #[]) (w.setRow g (cur.toList.take o ++ (Builtin.zeroCells z.cells n).toList ++ cur.toList.drop (o + (Builtin.zeroCells z.cells n).toList.length)).toArray) := by
  have hsz : (Builtin.zeroCells z.cells n).toList.length = n * z.cells.size := by rw [Array.length_toList, size_zeroCells]
  have hone : ∀ u ∈ (Builtin.zeroCells z.cells n).toList, u.oneCell' = true := by
    intro u hu
    rw [Array.mem_toList_iff] at hu
    unfold Builtin.zeroCells at hu
    rw [Array.mem_map] at hu
    obtain ⟨i, hi, rfl⟩ := hu
    rw [Array.mem_range] at hi
    have hlt : 0 < z.cells.size := by
      rcases Nat.eq_zero_or_pos z.cells.size with h | h
      · rw [h, Nat.mul_zero] at hi; omega
      · exact h
    have hm := Nat.mod_lt i hlt
    rw [getElem!_pos z.cells _ hm]
    exact h1 _ (Array.getElem_mem hm)
  have hst := run_storeCells_at P g o tt (Builtin.zeroCells z.cells n).toList 0 cur w hg (by rw [hsz]; omega) hone
  simp only [Nat.add_zero] at hst
  obtain ⟨m, rfl⟩ : ∃ m, n = m + 1 := ⟨n - 1, by omega⟩
  simp only [Builtin.clear_, List.getElem?_toArray, List.getElem?_cons_zero]
  simp [run_underlying ht, hv, hst]

/-- one step of a region that draws: a builtin of two arguments whose run is known -/
theorem step_append_run {P : Program} {ops : Array Oper} {o : Oper} {a : Act} {w : World} {K : Act → World → Prop} {Q : Exit → Act → World → Prop} {E : Prop} (hg : o.guard = none) (s x : Operand) (t tn : TypeId)
    (ho : o.op = .call { callee := .builtin .append, args := #[s, x], argTypes := #[t, tn] }) (vs vx : Value) (hs : a.eval s = vs) (hx : a.eval x = vx)
    {v' : Value} {w' : World} (hr : (Builtin.append_ #[t, tn] o.type #[vs, vx]).run P w = .ok v' w') (h : K (a.put o.dst v') w') :
    if Region.wanted o (yielded ops a.tmps) = true then Oper.wp P o a w K Q else E := by
  rw [if_pos (by simp [Region.wanted, hg])]
  exact Lib.wp_append_run w s x t tn ho vs vx hs hx v' w' hr h
theorem wp_copy_run {P : Program} (w : World) {o : Oper} {a : Act} {K : Act → World → Prop} {Q : Exit → Act → World → Prop} (d s : Operand) (t t' : TypeId)
    (ho : o.op = .call { callee := .builtin .copy, args := #[d, s], argTypes := #[t, t'] }) (v u : Value) (hd : a.eval d = v) (hs : a.eval s = u) {v' : Value} {w' : World}
    (hr : (Builtin.copy_ #[t, t'] o.type #[v, u]).run P w = .ok v' w') (h : K (a.put o.dst v') w') : o.wp P a w K Q := by
  unfold Oper.wp execOp
  simp only [ho, resolve, invoke, builtin, Sem.run_bind, Sem.run_pure, Result.andThen_ok, List.map_toArray, List.map_cons, List.map_nil, hd, hs, hr]
  exact h
theorem wpList_copy_run {P : Program} (w : World) {ops : Array Oper} {rest : List Oper} {o : Oper} {a : Act} {Q : Exit → Act → World → Prop} (hgd : o.guard = none) (d s : Operand) (t t' : TypeId)
    (ho : o.op = .call { callee := .builtin .copy, args := #[d, s], argTypes := #[t, t'] }) (v u : Value) (hd : a.eval d = v) (hs : a.eval s = u) {v' : Value} {w' : World}
    (hr : (Builtin.copy_ #[t, t'] o.type #[v, u]).run P w = .ok v' w') (h : wpList P ops Q rest (a.put o.dst v') w') : wpList P ops Q (o :: rest) a w :=
  wpList_plain hgd fun _ hK => wp_copy_run w d s t t' ho v u hd hs hr (hK _ _ h)
theorem step_copy_run {P : Program} {ops : Array Oper} {o : Oper} {a : Act} {w : World} {K : Act → World → Prop} {Q : Exit → Act → World → Prop} {E : Prop} (hg : o.guard = none) (d s : Operand) (t t' : TypeId)
    (ho : o.op = .call { callee := .builtin .copy, args := #[d, s], argTypes := #[t, t'] }) (v u : Value) (hd : a.eval d = v) (hs : a.eval s = u) {v' : Value} {w' : World}
    (hr : (Builtin.copy_ #[t, t'] o.type #[v, u]).run P w = .ok v' w') (h : K (a.put o.dst v') w') :
    if Region.wanted o (yielded ops a.tmps) = true then Oper.wp P o a w K Q else E := by
  rw [if_pos (by simp [Region.wanted, hg])]
  exact wp_copy_run w d s t t' ho v u hd hs hr h
theorem wp_clear_run {P : Program} (w : World) {o : Oper} {a : Act} {K : Act → World → Prop} {Q : Exit → Act → World → Prop} (d : Operand) (t : TypeId)
    (ho : o.op = .call { callee := .builtin .clear, args := #[d], argTypes := #[t] }) (v : Value) (hd : a.eval d = v) {v' : Value} {w' : World}
    (hr : (Builtin.clear_ #[t] o.type #[v]).run P w = .ok v' w') (h : K (a.put o.dst v') w') : o.wp P a w K Q := by
  unfold Oper.wp execOp
  simp only [ho, resolve, invoke, builtin, Sem.run_bind, Sem.run_pure, Result.andThen_ok, List.map_toArray, List.map_cons, List.map_nil, hd, hr]
  exact h
theorem wpList_clear_run {P : Program} (w : World) {ops : Array Oper} {rest : List Oper} {o : Oper} {a : Act} {Q : Exit → Act → World → Prop} (hgd : o.guard = none) (d : Operand) (t : TypeId)
    (ho : o.op = .call { callee := .builtin .clear, args := #[d], argTypes := #[t] }) (v : Value) (hd : a.eval d = v) {v' : Value} {w' : World}
    (hr : (Builtin.clear_ #[t] o.type #[v]).run P w = .ok v' w') (h : wpList P ops Q rest (a.put o.dst v') w') : wpList P ops Q (o :: rest) a w :=
  wpList_plain hgd fun _ hK => wp_clear_run w d t ho v hd hr (hK _ _ h)

/-- cells laid over a list from a place on -/
def lay (L : List Value) (o : Nat) (cs : List Value) : List Value := L.take o ++ cs ++ L.drop (o + cs.length)
theorem length_lay (L : List Value) (o : Nat) (cs : List Value) (h : o + cs.length ≤ L.length) : (lay L o cs).length = L.length := by
  simp only [lay, List.length_append, List.length_take, List.length_drop]; omega
theorem lay_behind_first (L us cs : List Value) (o q : Nat) (hq : q = o + us.length) (h : q + cs.length ≤ L.length) : lay (lay L q cs) o us = L.take o ++ (us ++ (cs ++ L.drop (q + cs.length))) := by
  subst hq
  have h1 : (L.take (o + us.length)).length = o + us.length := by rw [List.length_take]; omega
  have e1 : (lay L (o + us.length) cs).take o = L.take o := by
    rw [lay, List.append_assoc, List.take_append_of_le_length (by rw [h1]; omega), List.take_take, Nat.min_eq_left (by omega)]
  have e2 : (lay L (o + us.length) cs).drop (o + us.length) = cs ++ L.drop (o + us.length + cs.length) := by
    rw [lay, List.append_assoc, List.drop_left' h1]
  rw [lay, e1, e2, List.append_assoc]
theorem lay_first_behind (L us cs : List Value) (o q : Nat) (hq : q = o + us.length) (h : q + cs.length ≤ L.length) : lay (lay L o us) q cs = L.take o ++ (us ++ (cs ++ L.drop (q + cs.length))) := by
  subst hq
  have h1 : (L.take o ++ us).length = o + us.length := by rw [List.length_append, List.length_take]; omega
  have e1 : (lay L o us).take (o + us.length) = L.take o ++ us := by rw [lay, List.take_left' h1]
  have e2 : (lay L o us).drop (o + us.length + cs.length) = L.drop (o + us.length + cs.length) := by
    rw [lay, ← List.drop_drop, List.drop_left' h1, List.drop_drop]
  rw [lay, e1, e2, List.append_assoc, List.append_assoc]
end Go.Proofs.YthgndgoljchnfaaGreat
namespace Go.Proofs.YthgndgoljchnfaaGreat
open Go.RowKit

/-- the cells of a list's elements, one behind the other -/
def rowC {α : Type} (enc : α → Array Value) (l : List α) : List Value := l.flatMap fun x => (enc x).toList
theorem rowC_nil {α : Type} (enc : α → Array Value) : rowC enc [] = [] := rfl
theorem rowC_cons {α : Type} (enc : α → Array Value) (x : α) (l : List α) : rowC enc (x :: l) = (enc x).toList ++ rowC enc l := rfl
theorem rowC_append {α : Type} (enc : α → Array Value) (l m : List α) : rowC enc (l ++ m) = rowC enc l ++ rowC enc m := by simp [rowC]
theorem rowC_one1 {α : Type} (enc : α → Array Value) (x : α) : rowC enc [x] = (enc x).toList := by simp [rowC]
theorem rowC_length {α : Type} {enc : α → Array Value} {k : Nat} (h : ∀ x, (enc x).size = k) : ∀ l : List α, (rowC enc l).length = l.length * k
  | [] => by simp [rowC_nil]
  | x :: l => by rw [rowC_cons, List.length_append, rowC_length h l, Array.length_toList, h, List.length_cons, Nat.add_mul]; omega
theorem rowC_get {α : Type} {enc : α → Array Value} {k : Nat} (h : ∀ x, (enc x).size = k) : ∀ (l : List α) (i j : Nat) (x : α), l[i]? = some x → j < k → (rowC enc l)[i * k + j]? = (enc x)[j]?
  | y :: l, 0, j, x, hx, hj => by
    simp at hx
    subst hx
    rw [Nat.zero_mul, Nat.zero_add, rowC_cons, List.getElem?_append_left (by rw [Array.length_toList, h]; exact hj), Array.getElem?_toList]
  | y :: l, i + 1, j, x, hx, hj => by
    rw [rowC_cons, Nat.add_mul, List.getElem?_append_right (by rw [Array.length_toList, h]; omega), show i * k + 1 * k + j - (enc y).toList.length = i * k + j by rw [Array.length_toList, h]; omega, rowC_get h l i j x (by simpa using hx) hj]
  | [], i, j, x, hx, hj => by cases hx
theorem rowC_take {α : Type} {enc : α → Array Value} {k : Nat} (h : ∀ x, (enc x).size = k) (l : List α) (n : Nat) : (rowC enc l).take (n * k) = rowC enc (l.take n) := by
  induction l generalizing n with
  | nil => simp [rowC]
  | cons p l ih =>
    cases n with
    | zero => simp [rowC]
    | succ n => rw [show (n + 1) * k = (enc p).toList.length + n * k by rw [Array.length_toList, h, Nat.add_mul]; omega, rowC_cons, List.take_length_add_append, ih, List.take_succ_cons, rowC_cons]
theorem rowC_drop {α : Type} {enc : α → Array Value} {k : Nat} (h : ∀ x, (enc x).size = k) (l : List α) (n : Nat) : (rowC enc l).drop (n * k) = rowC enc (l.drop n) := by
  induction l generalizing n with
  | nil => simp [rowC]
  | cons p l ih =>
    cases n with
    | zero => simp
    | succ n => rw [show (n + 1) * k = (enc p).toList.length + n * k by rw [Array.length_toList, h, Nat.add_mul]; omega, rowC_cons, List.drop_length_add_append, ih, List.drop_succ_cons]
theorem rowC_all {α : Type} {enc : α → Array Value} {l : List α} (h : ∀ x ∈ l, (enc x).all (·.oneCell') = true) : ∀ u ∈ rowC enc l, u.oneCell' = true := by
  intro u hu
  obtain ⟨p, hp1, hp⟩ := List.mem_flatMap.1 hu
  exact Array.all_eq_true_iff_forall_mem.1 (h p hp1) u (by simpa using hp)
end Go.Proofs.YthgndgoljchnfaaGreat
