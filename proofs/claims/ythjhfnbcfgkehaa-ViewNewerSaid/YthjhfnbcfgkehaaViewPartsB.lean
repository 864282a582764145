/-
  Lists of parts: one that is put between, parts that are told anew, those alike put together, and what is known behind each (no program is met here).
-/
import Derived.Test.YthjhfnbcfgkehaaViewParts
namespace Go.Proofs.Ythjhfnbcfgkehaa
open Go.RowKit

/-- a part that begins at x, as what lies around it -/
abbrev ptAt (P : List PT) (x : Nat) : PT := ⟨x, (at_ P x).n, (at_ P x).e⟩
theorem ptAt_v (P : List PT) (x : Nat) : (ptAt P x).v = (at_ P x).v := rfl
/-- it is put between those that begin ahead of it, and those behind -/
theorem put_at {l1 l2 : List PT} {x : Nat} (hu : Up (l1 ++ l2)) (h1 : ∀ q ∈ l1, q.x < x) (h2 : ∀ q ∈ l2, x < q.x) (hne : l1 ++ l2 ≠ []) (y : Nat) :
    (at_ (l1 ++ ptAt (l1 ++ l2) x :: l2) y).v = (at_ (l1 ++ l2) y).v := by
  have hx : ∀ d : PT, atp d (l1 ++ l2) x = atp d l1 x := fun d => atp_low h2 l1 d
  have hl : (lastP (l1 ++ ptAt (l1 ++ l2) x :: l2)).v = (lastP (l1 ++ l2)).v := by
    rw [lastP_app]
    cases l2 with
    | cons a l => rw [lastP_cons2, lastP_app]
    | nil =>
      rw [lastP_one, ptAt_v]
      have hne : l1 ≠ [] := by simpa using hne
      obtain ⟨l, a, rfl⟩ : ∃ l a, l1 = l ++ [a] := ⟨_, _, (List.dropLast_concat_getLast hne).symm⟩
      simp only [List.append_nil] at hu ⊢
      rw [at_, atp_app (y := x) (p := a) (l2 := []) (by have := h1 a (by simp); omega) l _ fun q hq => by have := h1 q (by simp [hq]); omega, lastP_app]
      rfl
  rw [at_, atp_v hl]
  by_cases hy : x ≤ y
  · have e1 : atp (lastP (l1 ++ l2)) (l1 ++ ptAt (l1 ++ l2) x :: l2) y = atp (ptAt (l1 ++ l2) x) l2 y := atp_app hy l1 _ fun q hq => by have := h1 q hq; omega
    rw [e1]
    have e2 : (ptAt (l1 ++ l2) x).v = (atp (lastP (l1 ++ l2)) l1 x).v := by rw [ptAt_v, at_, hx]
    rw [atp_v e2]
    have e3 : ∀ (l : List PT) (d : PT), (∀ q ∈ l, q.x < x) → atp d (l ++ l2) y = atp (atp d l x) l2 y := by
      intro l
      induction l with
      | nil => intro d _; rfl
      | cons a l ih =>
        intro d h
        have ha := h a (by simp)
        show (if a.x ≤ y then atp a (l ++ l2) y else d) = atp (if a.x ≤ x then atp a l x else d) l2 y
        rw [if_pos (by omega), if_pos (by omega), ih a fun q hq => h q (by simp [hq])]
    rw [at_, e3 l1 _ h1]
  · rw [at_, atp_low (l2 := ptAt (l1 ++ l2) x :: l2) (fun q hq => by
      rcases List.mem_cons.1 hq with rfl | hq
      · exact Nat.lt_of_not_le hy
      · have := h2 q hq; omega) l1, atp_low (l2 := l2) (fun q hq => by have := h2 q hq; omega) l1]
theorem PInv.put {l1 l2 : List PT} {x : Nat} (h : PInv (l1 ++ l2)) (hx : x < 18446744073709551616) (h1 : ∀ q ∈ l1, q.x < x) (h2 : ∀ q ∈ l2, x < q.x) : PInv (l1 ++ ptAt (l1 ++ l2) x :: l2) := by
  have hm : ∀ {q}, q ∈ l1 ++ ptAt (l1 ++ l2) x :: l2 → q = ptAt (l1 ++ l2) x ∨ q ∈ l1 ++ l2 := fun {q} hq => by
    rcases List.mem_append.1 hq with z | z
    · exact .inr (by simp [z])
    · rcases List.mem_cons.1 z with z | z
      · exact .inl z
      · exact .inr (by simp [z])
  refine ⟨by simp, fun q hq => ?_, ?_, fun q hq => ?_⟩
  · rcases hm hq with rfl | z
    · exact hx
    · exact h.lt q z
  · obtain ⟨u1, u2, u3⟩ := List.pairwise_append.1 h.up
    refine List.pairwise_append.2 ⟨u1, List.pairwise_cons.2 ⟨h2, u2⟩, fun a ha b hb => ?_⟩
    rcases List.mem_cons.1 hb with rfl | hb
    · exact h1 a ha
    · exact u3 a ha b hb
  · rcases hm hq with rfl | z
    · have := h.ok _ (at_mem h.ne x)
      exact this
    · exact h.ok q z
/-- what lies around it, as the code finds it: the last one ahead of it, or the last one of all -/
theorem around_eq {l1 l2 : List PT} {x : Nat} (hu : Up (l1 ++ l2)) (h1 : ∀ q ∈ l1, q.x < x) (h2 : ∀ q ∈ l2, x < q.x) (hne : l1 ++ l2 ≠ []) :
    (l1 ++ l2)[(l1.length + (l1 ++ l2).length - 1) % (l1 ++ l2).length]? = some (at_ (l1 ++ l2) x) := by
  have hpos := List.length_pos_iff.2 hne
  rw [at_, atp_low h2 l1]
  by_cases h0 : l1 = []
  · subst h0
    simp only [List.nil_append, List.length_nil, Nat.zero_add] at hpos hne ⊢
    obtain ⟨l, a, rfl⟩ : ∃ l a, l2 = l ++ [a] := ⟨_, _, (List.dropLast_concat_getLast hne).symm⟩
    rw [Nat.mod_eq_of_lt (by omega), lastP_app]
    simp [atp]
  · obtain ⟨l, a, rfl⟩ : ∃ l a, l1 = l ++ [a] := ⟨_, _, (List.dropLast_concat_getLast h0).symm⟩
    have ha := h1 a (by simp)
    rw [atp_app (y := x) (p := a) (l2 := []) (by omega) l _ fun q hq => by have := h1 q (by simp [hq]); omega]
    have e : ((l ++ [a]).length + ((l ++ [a]) ++ l2).length - 1) % ((l ++ [a]) ++ l2).length = l.length := by
      rw [show (l ++ [a]).length + ((l ++ [a]) ++ l2).length - 1 = l.length + ((l ++ [a]) ++ l2).length by simp, Nat.add_mod_right, Nat.mod_eq_of_lt (by simp)]
    rw [e]
    simp [atp]
/-- two points that no part divides lie in an arc both, if parts begin where it begins and ends -/
theorem in_same {p n f t y : Nat} (hp : p < 18446744073709551616) (hn : n < 18446744073709551616) (hf : f < 18446744073709551616) (ht : t < 18446744073709551616) (hy : y < 18446744073709551616)
    (h : inB p n y = true) (h1 : inB p n f = true → f = p) (h2 : inB p n t = true → t = p) : inB f t p = inB f t y := by
  have e : ∀ a b : Bool, (a = true ↔ b = true) → a = b := by decide
  apply e
  rw [in_iff] at h h1 h2 ⊢
  rw [in_iff]
  have c1 := sub64_cases hy hp
  have c2 := sub64_cases hn hp
  have c3 := sub64_cases hf hp
  have c4 := sub64_cases ht hp
  have c5 := sub64_cases hp hf
  have c6 := sub64_cases ht hf
  have c7 := sub64_cases hy hf
  constructor
  · rintro (g | g)
    · exact .inl g
    · omega
  · rintro (g | g)
    · exact .inl g
    · omega
theorem PInv.cutAt {P : List PT} (h : PInv P) {f t : Nat} (hf : ∃ p ∈ P, p.x = f) (ht : ∃ p ∈ P, p.x = t) {y : Nat} (hy : y < 18446744073709551616) : inB f t (at_ P y).x = inB f t y := by
  obtain ⟨a, ha, rfl⟩ := hf
  obtain ⟨b, hb, rfl⟩ := ht
  have hm := at_mem h.ne y
  obtain ⟨p, hp⟩ : ∃ p, at_ P y = p := ⟨_, rfl⟩
  rw [hp] at hm ⊢
  obtain ⟨l1, l2, rfl⟩ := List.append_of_mem hm
  have hh : nxh 0 (l1 ++ p :: l2) < 18446744073709551616 := nxh_lt (by omega) h.lt
  exact in_same (h.lt p hm) (nxh_lt hh fun z hz => h.lt z (by simp [hz])) (h.lt a ha) (h.lt b hb) hy ((has_iff h.up h.lt hy).2 hp) (h.bare ha) (h.bare hb)
/-- a part that is told anew -/
def upd (s : AO) (p : PT) : PT := if p.e < s.e ∧ inB s.f s.t p.x = true then ⟨p.x, s.n, s.e⟩ else p
theorem upd_x (s : AO) (p : PT) : (upd s p).x = p.x := by unfold upd; split <;> rfl
theorem atp_map (s : AO) (y : Nat) : ∀ (P : List PT) (d : PT), atp (upd s d) (P.map (upd s)) y = upd s (atp d P y)
  | [], _ => rfl
  | p :: r, d => by
    show (if (upd s p).x ≤ y then atp (upd s p) (r.map (upd s)) y else upd s d) = upd s (if p.x ≤ y then atp p r y else d)
    rw [upd_x, atp_map s y r p]
    split <;> rfl
theorem lastP_map (s : AO) {P : List PT} (h : P ≠ []) : lastP (P.map (upd s)) = upd s (lastP P) := by
  obtain ⟨l, a, rfl⟩ : ∃ l a, P = l ++ [a] := ⟨_, _, (List.dropLast_concat_getLast h).symm⟩
  rw [List.map_append, List.map_cons, lastP_app, lastP_app]
  rfl
theorem at_map (s : AO) {P : List PT} (h : P ≠ []) (y : Nat) : at_ (P.map (upd s)) y = upd s (at_ P y) := by
  rw [at_, lastP_map s h, atp_map]
theorem PInv.map {P : List PT} (h : PInv P) {s : AO} (hm : s.may) (he : s.e ≤ 9223372036854775807) : PInv (P.map (upd s)) := by
  obtain ⟨m1, m2, m3⟩ := hm
  refine ⟨by simpa using h.ne, fun q hq => ?_, ?_, fun q hq => ?_⟩
  · obtain ⟨p, hp, rfl⟩ := List.mem_map.1 hq
    rw [upd_x]
    exact h.lt p hp
  · refine List.pairwise_map.2 (h.up.imp fun {p q} z => by rw [upd_x, upd_x]; exact z)
  · obtain ⟨p, hp, rfl⟩ := List.mem_map.1 hq
    unfold upd
    split
    · exact .inr ⟨m1, m2, m3, he⟩
    · exact h.ok p hp
/-- is there one that is told anew? -/
def newsP (s : AO) (P : List PT) : Bool := P.any fun p => decide (p.e < s.e) && inB s.f s.t p.x
/-- what a part tells -/
def kq (p : PT) : Option (Int × Int) := if p.e = -1 then none else some p.v
theorem kq_upd {s : AO} {p : PT} (h3 : 0 ≤ s.e) (_h : -1 ≤ p.e) : kq (upd s p) = if inB s.f s.t p.x = true ∧ (∀ v, kq p = some v → v.2 < s.e) then some (s.n, s.e) else kq p := by
  by_cases h1 : inB s.f s.t p.x = true
  · by_cases h2 : p.e < s.e
    · have e1 : upd s p = ⟨p.x, s.n, s.e⟩ := if_pos ⟨h2, h1⟩
      rw [e1, if_pos ⟨h1, fun v hv => by
        unfold kq at hv
        split at hv
        · cases hv
        · obtain rfl := Option.some.inj hv
          exact h2⟩]
      exact if_neg (by show ¬ s.e = -1; omega)
    · have e1 : upd s p = p := if_neg (fun z => h2 z.1)
      rw [e1, if_neg (c := _ ∧ _)]
      rintro ⟨_, z⟩
      exact h2 (z p.v (if_neg (by omega)))
  · have e1 : upd s p = p := if_neg (fun z => h1 z.2)
    rw [e1, if_neg (fun z => h1 z.1)]
/-- what is known behind it -/
theorem kn_map {P : List PT} (h : PInv P) {s : AO} (hm : s.may) (hf : ∃ p ∈ P, p.x = s.f) (ht : ∃ p ∈ P, p.x = s.t) {y : Nat} (hy : y < 18446744073709551616) : knP (P.map (upd s)) y = learnt s (knP P) y := by
  have hok := h.ok _ (at_mem h.ne y)
  have h1 := kq_upd (s := s) (p := at_ P y) hm.2.2 (by omega)
  rw [h.cutAt hf ht hy, ← at_map s h.ne] at h1
  exact h1
theorem newsP_iff {P : List PT} (h : PInv P) {s : AO} (hm : s.may) (hf : ∃ p ∈ P, p.x = s.f) (ht : ∃ p ∈ P, p.x = s.t) : newsP s P = true ↔ ∃ x, x < 18446744073709551616 ∧ inB s.f s.t x = true ∧ ∀ v, knP P x = some v → v.2 < s.e := by
  obtain ⟨m1, m2, m3⟩ := hm
  unfold newsP
  rw [List.any_eq_true]
  constructor
  · rintro ⟨p, hp, hz⟩
    simp only [Bool.and_eq_true, decide_eq_true_eq] at hz
    refine ⟨p.x, h.lt p hp, hz.2, fun v hv => ?_⟩
    unfold knP at hv
    rw [h.self hp] at hv
    split at hv
    · cases hv
    · obtain rfl := Option.some.inj hv
      exact hz.1
  · rintro ⟨x, hx, h1, h2⟩
    have hok := h.ok _ (at_mem h.ne x)
    refine ⟨at_ P x, at_mem h.ne x, ?_⟩
    simp only [Bool.and_eq_true, decide_eq_true_eq]
    refine ⟨?_, by rw [h.cutAt hf ht hx]; exact h1⟩
    unfold knP at h2
    split at h2
    · rename_i he
      omega
    · exact h2 _ rfl
/-- those that follow one another and are alike, put together; d: the one ahead -/
def dda (d : PT) : List PT → List PT
  | [] => []
  | q :: r => if d.v = q.v then dda q r else q :: dda q r
def dd : List PT → List PT
  | [] => []
  | p :: r => p :: dda p r
theorem dda_sub : ∀ (r : List PT) (d : PT), (dda d r).Sublist r
  | [], _ => .slnil
  | q :: r, d => by
    unfold dda
    split
    · exact (dda_sub r q).cons q
    · exact (dda_sub r q).cons_cons q
theorem dd_sub (P : List PT) : (dd P).Sublist P := by
  cases P with
  | nil => exact .slnil
  | cons p r => exact (dda_sub r p).cons_cons p
theorem dda_at {y : Nat} : ∀ {r : List PT} {c d : PT}, Up r → c.v = d.v → (atp c (dda d r) y).v = (atp d r y).v
  | [], _, _, _, h => h
  | q :: r, c, d, hu, h => by
    obtain ⟨h1, h2⟩ := List.pairwise_cons.1 hu
    unfold dda
    by_cases he : d.v = q.v
    · rw [if_pos he, dda_at h2 (h.trans he)]
      show _ = (if q.x ≤ y then atp q r y else d).v
      split
      · rfl
      · rw [atp_lt q fun z hz => by have := h1 z hz; omega]
        exact he.symm
    · rw [if_neg he]
      show (if q.x ≤ y then atp q (dda q r) y else c).v = (if q.x ≤ y then atp q r y else d).v
      split
      · exact dda_at h2 rfl
      · exact h
theorem dda_last : ∀ {r : List PT} {c d : PT}, c.v = d.v → ((dda d r).getLastD c).v = (r.getLastD d).v
  | [], _, _, h => h
  | q :: r, c, d, h => by
    unfold dda
    by_cases he : d.v = q.v
    · rw [if_pos he, List.getLastD_cons]
      exact dda_last (h.trans he)
    · rw [if_neg he, List.getLastD_cons, List.getLastD_cons]
      exact dda_last rfl
theorem dda_alt : ∀ {r : List PT} {c d : PT}, c.v = d.v → alt c (dda d r)
  | [], _, _, _ => trivial
  | q :: r, c, d, h => by
    unfold dda
    by_cases he : d.v = q.v
    · rw [if_pos he]
      exact dda_alt (h.trans he)
    · rw [if_neg he]
      exact ⟨by rw [h]; exact he, dda_alt rfl⟩
theorem dd_last (P : List PT) : (lastP (dd P)).v = (lastP P).v := by
  cases P with
  | nil => rfl
  | cons p r => rw [lastP, lastP, dd, List.getLastD_cons, List.getLastD_cons]; exact dda_last rfl
theorem dd_at {P : List PT} (hu : Up P) (y : Nat) : (at_ (dd P) y).v = (at_ P y).v := by
  rw [at_, atp_v (dd_last P)]
  cases P with
  | nil => rfl
  | cons p r =>
    show (if p.x ≤ y then atp p (dda p r) y else _).v = (if p.x ≤ y then atp p r y else _).v
    split
    · exact dda_at (List.pairwise_cons.1 hu).2 rfl
    · rfl
theorem PInv.sub {P Q : List PT} (h : PInv P) (hs : Q.Sublist P) (hne : Q ≠ []) : PInv Q :=
  ⟨hne, fun q hq => h.lt q (hs.subset hq), h.up.sublist hs, fun q hq => h.ok q (hs.subset hq)⟩
/-- the first one goes where the last one is alike -/
theorem tail_at {p : PT} {r : List PT} (hu : Up (p :: r)) (hr : r ≠ []) (hl : (lastP (p :: r)).v = p.v) (y : Nat) : (at_ r y).v = (at_ (p :: r) y).v := by
  obtain ⟨h1, h2⟩ := List.pairwise_cons.1 hu
  obtain ⟨q, r', rfl⟩ := List.exists_cons_of_ne_nil hr
  rw [lastP_cons2] at hl
  show (at_ (q :: r') y).v = (if p.x ≤ y then atp p (q :: r') y else lastP (p :: q :: r')).v
  rw [lastP_cons2]
  split
  · exact atp_v hl (q :: r')
  · rw [at_, atp_lt _ fun z hz => by have := h1 z hz; omega]
/-- put together, round the ring -/
def joinP (P : List PT) : List PT :=
  match dd P with
  | [] => []
  | [p] => [⟨0, p.n, p.e⟩]
  | p :: q :: r => if (lastP (q :: r)).v = p.v then (match r with | [] => [⟨0, q.n, q.e⟩] | _ :: _ => q :: r) else p :: q :: r
theorem at_one (p : PT) (x y : Nat) : (at_ [⟨x, p.n, p.e⟩] y).v = p.v := by
  rw [at_, lastP_one]
  unfold atp
  split <;> rfl
theorem at_one' (p : PT) (y : Nat) : (at_ [p] y).v = p.v := at_one p p.x y
theorem PInv.single {p : PT} {P : List PT} (h : PInv P) (hp : p ∈ P) : PFull [⟨0, p.n, p.e⟩] where
  ne := by simp
  lt := by simp
  up := by simp [Up]
  ok := by
    intro q hq
    simp at hq
    subst hq
    exact h.ok p hp
  one := by rintro p ⟨⟩; rfl
  nxt := by rintro p r ⟨⟩; trivial
  wrap := by rintro p r ⟨⟩ h; exact absurd rfl h
theorem PInv.join {P : List PT} (h : PInv P) : PFull (joinP P) ∧ ∀ y, (at_ (joinP P) y).v = (at_ P y).v := by
  have hne : dd P ≠ [] := by
    have := h.ne
    cases P with
    | nil => exact absurd rfl this
    | cons p r => simp [dd]
  have hd := h.sub (dd_sub P) hne
  have ha : ∀ p r, dd P = p :: r → alt p r := by
    intro p r e
    cases P with
    | nil => cases e
    | cons a l => injection e with e1 e2; subst e1 e2; exact dda_alt rfl
  have hv := dd_at h.up
  unfold joinP
  split
  · rename_i e; exact absurd e hne
  · rename_i p e
    rw [e] at hd hv
    exact ⟨hd.single (by simp), fun y => by rw [at_one, ← hv y, at_one']⟩
  · rename_i p q r e
    rw [e] at hd hv
    have ha := ha _ _ e
    split
    · rename_i hl
      have ht := tail_at hd.up (by simp) (by rw [lastP_cons2]; exact hl)
      split
      · exact ⟨hd.single (by simp), fun y => by rw [at_one, ← hv y, ← ht y, at_one']⟩
      · rename_i a r' 
        refine ⟨⟨hd.sub (List.sublist_cons_self _ _) (by simp), ?_, ?_, ?_⟩, fun y => by rw [← hv y, ht y]⟩
        · rintro p' ⟨⟩
        · rintro p' r'' ⟨⟩; exact ha.2
        · rintro p' r'' ⟨⟩ _
          rw [hl]
          exact ha.1
    · rename_i hl
      refine ⟨⟨hd, ?_, ?_, ?_⟩, fun y => hv y⟩
      · rintro p' ⟨⟩
      · rintro p' r'' ⟨⟩; exact ha
      · rintro p' r'' ⟨⟩ _
        rw [lastP_cons2]
        exact hl
theorem knP_v {P Q : List PT} {y : Nat} (h : (at_ P y).v = (at_ Q y).v) : knP P y = knP Q y := by
  unfold knP
  have he : (at_ P y).e = (at_ Q y).e := congrArg Prod.snd h
  rw [he, h]
/-- how many parts there are -/
theorem parts_few : ∀ {P : List PT} {d : PT} {h : Nat}, (∀ p ∈ P, p.e = -1 → p.n = 0) → (d.e = -1 → d.n = 0) → alt d P → P.length ≤ 2 * (arcsR h P).length + (if d.e = -1 then 0 else 1)
  | [], _, _, _, _, _ => Nat.zero_le _
  | q :: r, d, h, ho, hd, ha => by
    have ih := parts_few (P := r) (d := q) (h := h) (fun p hp => ho p (by simp [hp])) (ho q (by simp)) ha.2
    unfold arcsR
    by_cases he : q.e = -1
    · rw [if_pos he]
      rw [if_pos he] at ih
      have : d.e ≠ -1 := fun z => ha.1 (by rw [PT.v, PT.v, z, he, hd z, ho q (by simp) he])
      rw [if_neg this]
      simp only [List.length_cons]
      omega
    · rw [if_neg he]
      rw [if_neg he] at ih
      simp only [List.length_cons]
      split <;> omega
theorem PFull.few {P : List PT} (h : PFull P) : P.length ≤ 2 * (arcsP P).length + 1 := by
  have ho : ∀ p ∈ P, p.e = -1 → p.n = 0 := fun p hp he => by
    rcases h.ok p hp with z | z
    · exact z.1
    · omega
  cases P with
  | nil => simp
  | cons p r =>
    have ih := parts_few (P := r) (d := p) (h := nxh 0 (p :: r)) (fun q hq => ho q (by simp [hq])) (ho p (by simp)) (h.nxt p r rfl)
    show _ ≤ 2 * (arcsR (nxh 0 (p :: r)) (p :: r)).length + 1
    unfold arcsR
    by_cases he : p.e = -1
    · rw [if_pos he] at ih ⊢
      simp only [List.length_cons]
      omega
    · rw [if_neg he] at ih ⊢
      simp only [List.length_cons]
      omega
/-- nothing is known -/
theorem PFull.none : PFull [PT0] where
  ne := by simp
  lt := by simp
  up := by simp [Up]
  ok := by simp
  one := by rintro p ⟨⟩; rfl
  nxt := by rintro p r ⟨⟩; trivial
  wrap := by rintro p r ⟨⟩ h; exact absurd rfl h
end Go.Proofs.Ythjhfnbcfgkehaa
