/-
  What is known of all points, as a list of parts, each from its point on up to the next one (no program is met here): what lies around a point; a part that is put between; parts that are told anew; those alike put together; the arcs that such a list tells.
-/
import Derived.Test.YthjhfnbcfgkehaaViewPure
namespace Go.Proofs.Ythjhfnbcfgkehaa
open Go.RowKit

/-- a part: from, node, epoch -/
structure PT where
  x : Nat
  n : Int
  e : Int
def PT.v (p : PT) : Int × Int := (p.n, p.e)
/-- the part around a point; d: the one that goes over the end -/
def atp (d : PT) : List PT → Nat → PT
  | [], _ => d
  | p :: r, y => if p.x ≤ y then atp p r y else d
abbrev PT0 : PT := ⟨0, 0, -1⟩
abbrev lastP (P : List PT) : PT := P.getLastD PT0
abbrev at_ (P : List PT) (y : Nat) : PT := atp (lastP P) P y
abbrev Up (P : List PT) : Prop := P.Pairwise fun p q => p.x < q.x
/-- what is asked of a list of parts -/
structure PInv (P : List PT) : Prop where
  ne : P ≠ []
  lt : ∀ p ∈ P, p.x < 18446744073709551616
  up : Up P
  ok : ∀ p ∈ P, (p.n = 0 ∧ p.e = -1) ∨ (0 ≤ p.n ∧ p.n ≤ 255 ∧ 0 ≤ p.e ∧ p.e ≤ 9223372036854775807)
theorem atp_mem (y : Nat) : ∀ (P : List PT) (d : PT), atp d P y = d ∨ atp d P y ∈ P
  | [], _ => .inl rfl
  | p :: r, d => by
    unfold atp
    split
    · rcases atp_mem y r p with h | h
      · exact .inr (by rw [h]; simp)
      · exact .inr (by simp [h])
    · exact .inl rfl
theorem lastP_mem {P : List PT} (h : P ≠ []) : lastP P ∈ P := by
  cases P with
  | nil => exact absurd rfl h
  | cons p r => rw [lastP, List.getLastD_cons, ← List.getLast_eq_getLastD (h := by simp)]; exact List.getLast_mem _
theorem at_mem {P : List PT} (h : P ≠ []) (y : Nat) : at_ P y ∈ P := by
  rcases atp_mem y P (lastP P) with z | z
  · rw [at_, z]; exact lastP_mem h
  · exact z
theorem atp_lt {y : Nat} {P : List PT} (d : PT) (h : ∀ q ∈ P, y < q.x) : atp d P y = d := by
  cases P with
  | nil => rfl
  | cons p r => exact if_neg (by have := h p (by simp); omega)
theorem up_app {l1 l2 : List PT} {p : PT} (h : Up (l1 ++ p :: l2)) : (∀ q ∈ l1, q.x < p.x) ∧ (∀ q ∈ l2, p.x < q.x) := by
  obtain ⟨_, h2, h3⟩ := List.pairwise_append.1 h
  exact ⟨fun q hq => h3 q hq p (by simp), fun q hq => (List.pairwise_cons.1 h2).1 q hq⟩
theorem atp_app {y : Nat} {p : PT} {l2 : List PT} (hp : p.x ≤ y) : ∀ (l1 : List PT) (d : PT), (∀ q ∈ l1, q.x ≤ y) → atp d (l1 ++ p :: l2) y = atp p l2 y
  | [], _, _ => if_pos hp
  | a :: l, d, h => by
    show (if a.x ≤ y then atp a (l ++ p :: l2) y else d) = _
    rw [if_pos (h a (by simp)), atp_app hp l a fun q hq => h q (by simp [hq])]
theorem atp_low {y : Nat} {l2 : List PT} (h2 : ∀ q ∈ l2, y < q.x) : ∀ (l1 : List PT) (d : PT), atp d (l1 ++ l2) y = atp d l1 y
  | [], d => atp_lt d h2
  | a :: l, d => by
    show (if a.x ≤ y then atp a (l ++ l2) y else d) = (if a.x ≤ y then atp a l y else d)
    rw [atp_low h2 l a]
theorem atp_v {y : Nat} {c d : PT} (h : c.v = d.v) (P : List PT) : (atp c P y).v = (atp d P y).v := by
  cases P with
  | nil => exact h
  | cons p r =>
    unfold atp
    split
    · rfl
    · exact h
/-- where the part at l1's end ends -/
def nxh (h : Nat) : List PT → Nat
  | [] => h
  | q :: _ => q.x
/-- the arcs that are known -/
def arcsR (h : Nat) : List PT → List AO
  | [] => []
  | p :: r => if p.e = -1 then arcsR h r else ⟨p.x, nxh h r, p.n, p.e⟩ :: arcsR h r
abbrev arcsP (P : List PT) : List AO := arcsR (nxh 0 P) P
theorem mem_arcsR {h : Nat} {q : AO} : ∀ {P : List PT}, q ∈ arcsR h P ↔ ∃ l1 p l2, P = l1 ++ p :: l2 ∧ p.e ≠ -1 ∧ q = ⟨p.x, nxh h l2, p.n, p.e⟩
  | [] => by simp [arcsR]
  | p :: r => by
    unfold arcsR
    by_cases he : p.e = -1
    · rw [if_pos he, mem_arcsR]
      constructor
      · rintro ⟨l1, p', l2, rfl, h1, h2⟩
        exact ⟨p :: l1, p', l2, rfl, h1, h2⟩
      · rintro ⟨l1, p', l2, h0, h1, h2⟩
        cases l1 with
        | nil => injection h0 with h3 h4; exact absurd (h3 ▸ he) h1
        | cons a l1 => injection h0 with h3 h4; exact ⟨l1, p', l2, h4, h1, h2⟩
    · rw [if_neg he, List.mem_cons, mem_arcsR]
      constructor
      · rintro (rfl | ⟨l1, p', l2, rfl, h1, h2⟩)
        · exact ⟨[], p, r, rfl, he, rfl⟩
        · exact ⟨p :: l1, p', l2, rfl, h1, h2⟩
      · rintro ⟨l1, p', l2, h0, h1, h2⟩
        cases l1 with
        | nil => injection h0 with h3 h4; subst h3 h4; exact .inl h2
        | cons a l1 => injection h0 with h3 h4; exact .inr ⟨l1, p', l2, h4, h1, h2⟩
theorem in_mid {f t y : Nat} (hf : f < 18446744073709551616) (ht : t < 18446744073709551616) (hy : y < 18446744073709551616) (h : f < t) : inB f t y = true ↔ f ≤ y ∧ y < t := by
  rw [in_iff]
  have h1 := sub64_cases hy hf
  have h2 := sub64_cases ht hf
  constructor <;> intro g <;> omega
theorem in_over {f t y : Nat} (hf : f < 18446744073709551616) (ht : t < 18446744073709551616) (hy : y < 18446744073709551616) (h : t < f) : inB f t y = true ↔ f ≤ y ∨ y < t := by
  rw [in_iff]
  have h1 := sub64_cases hy hf
  have h2 := sub64_cases ht hf
  constructor <;> intro g <;> omega
theorem lastP_app (l1 l2 : List PT) (p : PT) : lastP (l1 ++ p :: l2) = lastP (p :: l2) := by
  rw [lastP, lastP, List.getLastD_eq_getLast?, List.getLastD_eq_getLast?, List.getLast?_append]
  simp [List.getLast?_cons]
theorem lastP_one (p : PT) : lastP [p] = p := rfl
theorem lastP_cons2 (p q : PT) (r : List PT) : lastP (p :: q :: r) = lastP (q :: r) := lastP_app [p] r q
/-- the part around a point is the one whose arc has it -/
theorem has_iff {l1 l2 : List PT} {p : PT} (hu : Up (l1 ++ p :: l2)) (hlt : ∀ q ∈ l1 ++ p :: l2, q.x < 18446744073709551616) {y : Nat} (hy : y < 18446744073709551616) :
    inB p.x (nxh (nxh 0 (l1 ++ p :: l2)) l2) y = true ↔ at_ (l1 ++ p :: l2) y = p := by
  obtain ⟨u1, u2⟩ := up_app hu
  have hp := hlt p (by simp)
  cases l2 with
  | cons q l3 =>
    have hq := hlt q (by simp)
    have hpq := u2 q (by simp)
    rw [nxh, in_mid hp hq hy hpq]
    have e : l1 ++ p :: q :: l3 = (l1 ++ [p]) ++ q :: l3 := by simp
    constructor
    · rintro ⟨h1, h2⟩
      rw [at_, atp_app h1 l1 _ fun z hz => by have := u1 z hz; omega]
      exact if_neg (by omega)
    · intro h
      refine ⟨Nat.le_of_not_lt fun z => ?_, Nat.lt_of_not_le fun z => ?_⟩
      · rw [at_, atp_low (l2 := p :: q :: l3) (fun w hw => by
          rcases List.mem_cons.1 hw with rfl | hw
          · exact z
          · have := u2 w hw; omega) l1] at h
        rcases atp_mem y l1 (lastP (l1 ++ p :: q :: l3)) with w | w
        · rw [w, lastP_app, lastP_cons2] at h
          have := lastP_mem (P := q :: l3) (by simp)
          rw [h] at this
          have := u2 p this
          omega
        · rw [h] at w
          have := u1 p w
          omega
      · rw [at_, e, atp_app z (l1 ++ [p]) _ (fun w hw => by
          rcases List.mem_append.1 hw with hw | hw
          · have := u1 w hw; omega
          · simp at hw; subst hw; omega)] at h
        rcases atp_mem y l3 q with w | w
        · rw [w] at h; rw [h] at hpq; omega
        · rw [h] at w
          have := u2 p (by simp [w])
          omega
  | nil =>
    rw [nxh]
    have hl : lastP (l1 ++ [p]) = p := by rw [lastP_app]; rfl
    cases l1 with
    | nil =>
      have : at_ ([] ++ [p]) y = p := by
        rw [at_, hl]
        unfold atp
        simp only [List.nil_append]
        split <;> rfl
      simp only [this, iff_true]
      exact in_whole _ _
    | cons a l =>
      have hap := u1 a (by simp)
      show inB p.x a.x y = true ↔ _
      rw [in_over hp (by omega) hy hap]
      have hb : at_ (a :: l ++ [p]) y = if a.x ≤ y then atp a (l ++ [p]) y else p := by
        show (if a.x ≤ y then atp a (l ++ [p]) y else lastP (a :: l ++ [p])) = _
        rw [hl]
      constructor
      · rintro (h | h)
        · rw [at_, atp_app h (a :: l) _ fun z hz => by have := u1 z hz; omega]
          rfl
        · rw [hb, if_neg (by omega)]
      · intro h
        by_cases h1 : p.x ≤ y
        · exact .inl h1
        · by_cases h2 : y < a.x
          · exact .inr h2
          · exfalso
            rw [hb, if_pos (by omega), atp_low (l2 := [p]) (by simp; omega) l a] at h
            rcases atp_mem y l a with w | w
            · rw [w] at h; rw [h] at hap; omega
            · rw [h] at w
              have := u1 p (by simp [w])
              omega
theorem up_nodup {P : List PT} (h : Up P) {p q : PT} (hp : p ∈ P) (hq : q ∈ P) (he : p.x = q.x) : p = q := by
  induction P with
  | nil => cases hp
  | cons a r ih =>
    obtain ⟨h1, h2⟩ := List.pairwise_cons.1 h
    rcases List.mem_cons.1 hp with e1 | z1
    · rcases List.mem_cons.1 hq with e2 | z2
      · rw [e1, e2]
      · have := h1 q z2; rw [e1] at he; omega
    · rcases List.mem_cons.1 hq with e2 | z2
      · have := h1 p z1; rw [e2] at he; omega
      · exact ih h2 z1 z2
theorem nxh_lt {h : Nat} {l : List PT} (hh : h < 18446744073709551616) (hl : ∀ q ∈ l, q.x < 18446744073709551616) : nxh h l < 18446744073709551616 := by
  cases l with
  | nil => exact hh
  | cons q r => exact hl q (by simp)
/-- at its own point lies the part -/
theorem PInv.self {P : List PT} (h : PInv P) {p : PT} (hp : p ∈ P) : at_ P p.x = p := by
  obtain ⟨l1, l2, rfl⟩ := List.append_of_mem hp
  have hx := h.lt p hp
  refine (has_iff h.up h.lt hx).1 (in_first _ _ hx (nxh_lt (nxh_lt (by omega) h.lt) fun q hq => h.lt q (by simp [hq])))
/-- no part begins within another one -/
theorem PInv.bare {l1 l2 : List PT} {p q : PT} (h : PInv (l1 ++ p :: l2)) (hq : q ∈ l1 ++ p :: l2) (hi : inB p.x (nxh (nxh 0 (l1 ++ p :: l2)) l2) q.x = true) : q.x = p.x := by
  have h1 := (has_iff h.up h.lt (h.lt q hq)).1 hi
  rw [h.self hq] at h1
  rw [h1]
/-- what is known -/
def knP (P : List PT) (y : Nat) : Option (Int × Int) := if (at_ P y).e = -1 then none else some (at_ P y).v
/-- parts alike do not follow one another -/
def alt (d : PT) : List PT → Prop
  | [] => True
  | q :: r => d.v ≠ q.v ∧ alt q r
structure PFull (P : List PT) : Prop extends PInv P where
  one : ∀ p, P = [p] → p.x = 0
  nxt : ∀ p r, P = p :: r → alt p r
  wrap : ∀ p r, P = p :: r → r ≠ [] → (lastP P).v ≠ p.v
theorem arcsR_up {h : Nat} : ∀ {P : List PT}, Up P → (arcsR h P).Pairwise fun p q => p.f < q.f
  | [], _ => List.Pairwise.nil
  | p :: r, hu => by
    obtain ⟨h1, h2⟩ := List.pairwise_cons.1 hu
    unfold arcsR
    split
    · exact arcsR_up h2
    · refine List.pairwise_cons.2 ⟨fun q hq => ?_, arcsR_up h2⟩
      obtain ⟨l1, p', l2, rfl, _, rfl⟩ := mem_arcsR.1 hq
      exact h1 p' (by simp)
theorem alt_at : ∀ {l1 : List PT} {d p q : PT} {l2 : List PT}, alt d (l1 ++ p :: q :: l2) → p.v ≠ q.v
  | [], _, _, _, _, h => h.2.1
  | _ :: _, _, _, _, _, h => alt_at h.2
theorem alt_suf : ∀ {l1 : List PT} {d p : PT} {l2 : List PT}, alt d (l1 ++ p :: l2) → alt p l2
  | [], _, _, _, h => h.2
  | _ :: _, _, _, _, h => alt_suf h.2
theorem PFull.arcs {P : List PT} (h : PFull P) : Arcs (arcsP P) := by
  have hh : nxh 0 P < 18446744073709551616 := nxh_lt (by omega) h.lt
  refine ⟨?_, ?_, arcsR_up h.up, ?_, ?_, ?_⟩
  · intro q hq
    obtain ⟨l1, p, l2, rfl, _, rfl⟩ := mem_arcsR.1 hq
    exact ⟨h.lt p (by simp), nxh_lt hh fun z hz => h.lt z (by simp [hz])⟩
  · intro q hq
    obtain ⟨l1, p, l2, rfl, he, rfl⟩ := mem_arcsR.1 hq
    rcases h.ok p (by simp) with z | z
    · exact absurd z.2 he
    · exact z
  · intro q hq e
    obtain ⟨l1, p, l2, rfl, _, rfl⟩ := mem_arcsR.1 hq
    obtain ⟨u1, u2⟩ := up_app h.up
    cases l2 with
    | cons a l => have := u2 a (by simp); simp only [nxh] at e; omega
    | nil =>
      cases l1 with
      | nil => exact h.one p rfl
      | cons a l => have := u1 a (by simp); simp only [nxh, List.cons_append] at e; omega
  · have hm : ∀ q ∈ arcsP P, ∀ r ∈ arcsP P, inB q.f q.t r.f = true → q.f = r.f := by
      intro q hq r hr hi
      obtain ⟨l1, p, l2, e1, _, rfl⟩ := mem_arcsR.1 hq
      obtain ⟨m1, p', m2, e2, _, rfl⟩ := mem_arcsR.1 hr
      have hp' : p' ∈ P := by rw [e2]; simp
      have h0 := h.toPInv
      rw [e1] at h0 hp' hi
      exact (h0.bare hp' hi).symm
    refine List.Pairwise.imp_of_mem ?_ (arcsR_up h.up)
    intro q r hq hr hlt
    unfold apartB
    rw [bool_not (b := inB q.f q.t r.f) fun z => by have := hm q hq r hr z; omega, bool_not (b := inB r.f r.t q.f) fun z => by have := hm r hr q hq z; omega]
    rfl
  · intro q hq r hr hne he hv
    obtain ⟨l1, p, l2, e1, _, rfl⟩ := mem_arcsR.1 hq
    obtain ⟨m1, p', m2, e2, _, rfl⟩ := mem_arcsR.1 hr
    have hp' : p' ∈ P := by rw [e2]; simp
    have hv : p.v = p'.v := hv
    cases l2 with
    | cons a l =>
      have : a = p' := up_nodup h.up (by rw [e1]; simp) hp' he
      subst this
      subst e1
      cases l1 with
      | nil => exact (h.nxt p (a :: l) rfl).1 hv
      | cons b l' => exact alt_at (h.nxt b _ rfl) hv
    | nil =>
      cases l1 with
      | nil => subst e1; exact hne rfl
      | cons b l' =>
        subst e1
        have : b = p' := up_nodup h.up (by simp) hp' he
        subst this
        refine h.wrap b _ rfl (by simp) ?_
        rw [lastP_app (b :: l') [] p]
        exact hv
theorem kn_parts {P : List PT} (h : PFull P) {y : Nat} (hy : y < 18446744073709551616) : kn (arcsP P) y = knP P y := by
  have hm := at_mem h.ne y
  unfold knP
  obtain ⟨p, hp⟩ : ∃ p, at_ P y = p := ⟨_, rfl⟩
  rw [hp] at hm ⊢
  obtain ⟨l1, l2, e⟩ := List.append_of_mem hm
  split
  · rename_i he
    cases hk : kn (arcsP P) y with
    | none => rfl
    | some v =>
      exfalso
      obtain ⟨q, hq, h1, -⟩ := kn_some hk
      obtain ⟨m1, p', m2, e2, he2, rfl⟩ := mem_arcsR.1 hq
      have h0 := h.toPInv
      rw [e2] at h0 h1 hp
      have := (has_iff h0.up h0.lt hy).1 h1
      rw [hp] at this
      exact he2 (this ▸ he)
  · rename_i he
    have hi : inB p.x (nxh (nxh 0 P) l2) y = true := by
      have h0 := h.toPInv
      rw [e] at h0 hp ⊢
      exact (has_iff h0.up h0.lt hy).2 hp
    exact h.arcs.known (p := ⟨p.x, nxh (nxh 0 P) l2, p.n, p.e⟩) (mem_arcsR.2 ⟨l1, p, l2, e, he, rfl⟩) hy hi
end Go.Proofs.Ythjhfnbcfgkehaa
