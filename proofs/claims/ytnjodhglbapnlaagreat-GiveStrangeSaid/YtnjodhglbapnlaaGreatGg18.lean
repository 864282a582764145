import Derived.Test.YtnjodhglbapnlaaGreatGg16
import Derived.Test.YtnjodhglbapnlaaGreatGg17
import Derived.Test.YtnjodhglbapnlaaGreatGg12
import Derived.Test.YtnjodhglbapnlaaGreatGg02
set_option maxRecDepth 100000
set_option maxHeartbeats 16000000
namespace Go.Proofs.YtnjodhglbapnlaaGreat
open Go.RowKit
theorem ywe (g c j : Nat) {its ic : List Item} {ps pc : List Nat} {m : NMap} {F : List Nat} (W : World) (h : Sto W m F) (hg : m g = some ⟨its, ps⟩) (hc : m c = some ⟨ic, pc⟩) (hpc : ps[j]? = some c) (hic : 3 ≤ ic.length) (l2 : ps.length ≤ 300) :
  Calls Tryz.prog 206 #[ptr g, .int .i64 (j : Nat)] W fun e w => e = .returned (.tuple #[]) ∧ W = w := by
 obtain ⟨n, hl⟩ : ∃ n, ic.length = n := ⟨_, rfl⟩
 obtain ⟨n2, hl2⟩ : ∃ n, ps.length = n := ⟨_, rfl⟩
 obtain ⟨q2, dg, C, dc, g1, cj, c0⟩ := h.child hg hpc hc hl2 hl
 have hj : j < ps.length := (List.getElem?_eq_some_iff.1 hpc).1
 have i1 : (j : Int) < (n2 : Int) := by omega
 have i2 : (3 : Int) ≤ (n : Int) := by omega
 have i3 : (j : Int) ≤ 300 := by omega
 clear h hg hc hpc hic l2 hl hl2 hj
 unfold ptr at *
 go_enter Tryz.func206, Tryz.ntmps206
 go_wp2_with fail
 exact bodyPost_ret (results_none rfl _ _ _) rfl ⟨rfl, rfl⟩
theorem yn8 {m : NMap} {F : List Nat} {W : World} {h g j cc : Nat} {xs ys ic : List Item} {pc : List Nat} {x : Item} {ls rs : List Ch} {ca cb : Ch} (hS : Sto W m F)
  (hm : m g = some ⟨xs ++ x :: ys, ls.map Ch.g ++ ca.g :: cb.g :: rs.map Ch.g⟩) (hl : ls.length = xs.length) (hr : rs.length = ys.length) (hd : ∀ d ∈ ls ++ rs, Sub m h 3 6 d)
  (sa : Sub m h 2 6 ca) (sb : Sub m h 2 6 cb) (h3 : Sub m h 3 6 ca ∨ Sub m h 3 6 cb) (hnd : (idsN g (ls ++ ca :: cb :: rs)).Nodup) (h6 : (xs ++ x :: ys).length ≤ 6)
  (hj : (j = xs.length + 1 ∧ cc = cb.g) ∨ (j = 0 ∧ xs = [] ∧ cc = ca.g)) (hcc : m cc = some ⟨ic, pc⟩) (hic : ic.length < 3) :
  Calls Tryz.prog 206 #[ptr g, .int .i64 (j : Nat)] W fun e w => e = .returned (.tuple #[]) ∧ ∃ m' F', Sto w m' F' ∧ Stp W F w F' ∧ (∀ z, z ≠ g → z ≠ ca.g → z < W.heap.size → m' z = m z) ∧
   ∃ c'', c''.g = g ∧ Sub m' (h + 1) ((xs ++ x :: ys).length - 1) 6 c'' ∧ c''.l = preW ls xs ++ (ca.l ++ x :: (cb.l ++ yba ys rs)) ∧ c''.I.Nodup ∧ ∀ z ∈ c''.I, z ∈ idsN g (ls ++ ca :: cb :: rs) ∨ W.heap.size ≤ z := by
 have sa0 := sa
 have sb0 := sb
 obtain ⟨ia, ka, a1, a2, a3, a4, a5, a6⟩ := sa
 obtain ⟨ib, kb, b1, b2, b3, b4, b5, b6⟩ := sb
 have hsum : 3 ≤ ia.length ∨ 3 ≤ ib.length := by
  rcases h3 with ⟨i', k', e1, e2, _⟩ | ⟨i', k', e1, e2, _⟩
  ·rw [a1] at e1; injection e1 with e1; injection e1 with e1 _; subst e1; exact .inl e2
  ·rw [b1] at e1; injection e1 with e1; injection e1 with e1 _; subst e1; exact .inr e2
 have hsm : ia.length < 3 ∨ ib.length < 3 := by
  rcases hj with ⟨_, rfl⟩ | ⟨_, _, rfl⟩
  ·rw [b1] at hcc; injection hcc with e1; injection e1 with e1 _; subst e1; exact .inr hic
  ·rw [a1] at hcc; injection hcc with e1; injection e1 with e1 _; subst e1; exact .inl hic
 have lJ : (ia ++ x :: ib).length = ia.length + ib.length + 1 := by simp; omega
 have hB : ∀ z ∈ idsN g (ls ++ ca :: cb :: rs), z < W.heap.size := by
  intro z hz
  have dom : ∃ nd, m z = some nd := by
   rcases yn5.1 hz with e | ⟨d, hd', hz'⟩
   ·exact ⟨_, by rw [e]; exact hm⟩
   ·rcases List.mem_append.1 hd' with e | e
    ·exact (hd d (by simp [e])).dom z hz'
    ·rcases List.mem_cons.1 e with rfl | e
     ·exact sa0.dom z hz'
     ·rcases List.mem_cons.1 e with rfl | e
      ·exact sb0.dom z hz'
      ·exact (hd d (by simp [e])).dom z hz'
  obtain ⟨nd, hn⟩ := dom
  exact hS.lt z (hS.mem hn)
 have nd1 := List.nodup_cons.1 hnd
 have hag : ca.g ≠ g := fun e => nd1.1 (List.mem_flatMap.2 ⟨ca, by simp, by rw [← e]; exact ye2 sa0⟩)
 have hab : ca.g ≠ cb.g := fun e => by
  have n2 := nd1.2
  rw [List.flatMap_append, List.flatMap_cons, List.flatMap_cons] at n2
  have n3 := (List.nodup_append.1 (List.nodup_append.1 n2).2.1).2.2 ca.g (ye2 sa0) cb.g (by simp [ye2 sb0])
  exact n3 e
 have hleaf : (ka.map Ch.g ++ kb.map Ch.g) = [] ∨ (ka.map Ch.g ++ kb.map Ch.g).length = (ia ++ x :: ib).length + 1 := by
  rcases (a4.app b4).ps with ⟨_, z⟩ | ⟨_, z⟩
  ·left; rw [← List.map_append]; exact z
  ·right; rw [← List.map_append, z, lJ]; omega
 have lps : ∀ {k : List Ch} {n : Nat}, Kids m h k n → n ≤ 6 → (k.map Ch.g).length ≤ 300 := fun hk hn => by
  rcases hk.ps with ⟨_, z⟩ | ⟨_, z⟩
  ·rw [z]; simp
  ·omega
 have hlen : (xs ++ x :: ys).length = xs.length + ys.length + 1 := by simp; omega
 have q0 : (ls.map Ch.g ++ ca.g :: cb.g :: rs.map Ch.g)[xs.length]? = some ca.g := by rw [← hl, List.getElem?_append_right (by simp)]; simp
 have q1 : (ls.map Ch.g ++ ca.g :: cb.g :: rs.map Ch.g)[xs.length + 1]? = some cb.g := by rw [← hl, List.getElem?_append_right (by simp)]; simp
 have q2 : (xs ++ x :: ys)[xs.length]? = some x := by simp
 have qj : (ls.map Ch.g ++ ca.g :: cb.g :: rs.map Ch.g)[j]? = some cc := by
  rcases hj with ⟨rfl, rfl⟩ | ⟨rfl, rfl, rfl⟩
  ·exact q1
  ·exact q0
 have lp : (ls.map Ch.g ++ ca.g :: cb.g :: rs.map Ch.g).length = xs.length + ys.length + 2 := by simp; omega
 refine (yv4 g ca.g cb.g j xs.length x cc W hS hm a1 b1 hcc hab hag (by omega) (by omega) (by rcases hj with ⟨rfl, _⟩ | ⟨rfl, rfl, _⟩ <;> omega) (by rcases hj with ⟨rfl, _⟩ | ⟨rfl, rfl, _⟩; exact .inl rfl; exact .inr ⟨rfl, rfl⟩) q0 q1 qj q2 hic (by omega) (by omega) (by omega) (lps a4 a3) (by omega) (lps b4 b3) hleaf).mono ?_
 rintro e w ⟨rfl, m', F', c1, c2, c3⟩
 obtain ⟨r1, c'', r2, r3, r4, r5, r6⟩ := yv9 (m := m) (m' := m') (B := W.heap.size) hm hl hr hd a4 a5 a6 b4 b5 b6 hnd hB h6 (by omega) (by omega) c3
 exact ⟨rfl, m', F', c1, c2, r1, c'', r2, r3, r4, r5, r6⟩
def yn9 (W : World) (F : List Nat) (m : NMap) (h : Nat) (f : Fr) (c : Ch) (e : Ending) (w : World) : Prop :=
 e = .returned (.tuple #[]) ∧ ∃ m' F', Sto w m' F' ∧ Stp W F w F' ∧ (∀ z, z ∉ c.I → z ∉ idsF f → z < W.heap.size → m' z = m z) ∧
  ∃ c'', c''.g = f.g ∧ Sub m' (h + 1) ((f.xs ++ f.ys).length - 1) 6 c'' ∧ c''.l = (putIn f c).l ∧ c''.I.Nodup ∧ ∀ z ∈ c''.I, z ∈ c.I ∨ z ∈ idsF f ∨ W.heap.size ≤ z
theorem ykl {f : Fr} {c : Ch} {z : Nat} {cs : List Ch} (hcs : cs = f.ls ++ c :: f.rs) (hz : z ∈ idsN f.g cs) : z ∈ c.I ∨ z ∈ idsF f := by
 subst hcs
 rcases yn5.1 hz with e | ⟨d, hd, hz'⟩
 ·exact .inr (ycg.2 (.inl e))
 ·rcases List.mem_append.1 hd with e | e
  ·exact .inr (ycg.2 (.inr ⟨d, by simp [e], hz'⟩))
  ·rcases List.mem_cons.1 e with rfl | e
   ·exact .inl hz'
   ·exact .inr (ycg.2 (.inr ⟨d, by simp [e], hz'⟩))
theorem ywf (W : World) {m : NMap} {F : List Nat} {h : Nat} {f : Fr} {c : Ch} (hS : Sto W m F) (k : Frm m h c.g f) (s : Sub m h 2 6 c) (hnd : (c.I ++ idsF f).Nodup) (h1 : 1 ≤ (f.xs ++ f.ys).length) (h6 : (f.xs ++ f.ys).length ≤ 6) :
  Calls Tryz.prog 206 #[ptr f.g, .int .i64 (f.xs.length : Nat)] W (yn9 W F m h f c) := by
 have s0 := s
 have ndp : (idsN f.g (f.ls ++ c :: f.rs)).Nodup := ((ygy f c).nodup_iff).2 hnd
 obtain ⟨ic, kc, c1, c2, c3, c4, c5, c6⟩ := s
 by_cases h3 : 3 ≤ ic.length
 ·have q : (f.ls.map Ch.g ++ c.g :: f.rs.map Ch.g)[f.xs.length]? = some c.g := by rw [← k.left, List.getElem?_append_right (by simp)]; simp
  have e1 := k.left
  have e2 := k.right
  have e3 : (f.xs ++ f.ys).length = f.xs.length + f.ys.length := List.length_append
  refine (ywe f.g c.g f.xs.length W hS k.at_ c1 q h3 (by simp; omega)).mono ?_
  rintro e w ⟨rfl, rfl⟩
  refine ⟨rfl, m, F, hS, Stp.refl _ _, fun _ _ _ _ => rfl, putIn f c, rfl, k.putIn ⟨ic, kc, c1, h3, c3, c4, c5, c6⟩ (by omega) h6, rfl, ndp, fun z hz => ?_⟩
  rcases ykl rfl hz with e | e
  ·exact .inl e
  ·exact .inr (.inl e)
 ·obtain ⟨g, xs, ys, ls, rs⟩ := f
  have e1 : ls.length = xs.length := k.left
  have e2 : rs.length = ys.length := k.right
  have e3 : m g = some ⟨xs ++ ys, ls.map Ch.g ++ c.g :: rs.map Ch.g⟩ := k.at_
  have e4 : ∀ d ∈ ls ++ rs, Sub m h 3 6 d := k.kids
  have h1 : 1 ≤ (xs ++ ys).length := h1
  have h6 : (xs ++ ys).length ≤ 6 := h6
  rcases List.eq_nil_or_concat xs with rfl | ⟨xs0, x, rfl⟩
  ·obtain rfl : ls = [] := List.eq_nil_of_length_eq_zero (by simpa using e1)
   cases ys with
   | nil => simp at h1
   | cons x ys =>
    cases rs with
    | nil => simp at e2
    | cons cb rs =>
     have sb : Sub m h 3 6 cb := e4 cb (by simp)
     refine (yn8 (j := 0) (xs := []) (ls := []) (x := x) (ca := c) (cb := cb) hS e3 rfl (by simpa using e2) (fun d hd => e4 d (by simp at hd ⊢; exact .inr hd)) s0 (sb.mono (by omega) (Nat.le_refl _)) (.inr sb) ndp h6 (.inr ⟨rfl, rfl, rfl⟩) c1 (by omega)).mono ?_
     rintro e w ⟨rfl, m', F', d1, d2, d3, c'', d4, d5, d6, d7, d8⟩
     refine ⟨rfl, m', F', d1, d2, fun z z1 z2 z3 => d3 z (fun e => z2 (ycg.2 (.inl e))) (fun e => z1 (by rw [e]; exact ye2 s0)) z3, c'', d4, d5, ?_, d7, fun z hz => ?_⟩
     ·rw [d6]; simp [putIn, preW, yba]
     ·rcases d8 z hz with z1 | z1
      ·rcases ykl (f := ⟨g, [], x :: ys, [], cb :: rs⟩) rfl z1 with e | e
       ·exact .inl e
       ·exact .inr (.inl e)
      ·exact .inr (.inr z1)
  ·rcases List.eq_nil_or_concat ls with rfl | ⟨ls0, ca, rfl⟩
   ·simp at e1
   ·have el : ls0.length = xs0.length := by simpa using e1
    have sa : Sub m h 3 6 ca := e4 ca (by simp)
    have e3' : m g = some ⟨xs0 ++ x :: ys, ls0.map Ch.g ++ ca.g :: c.g :: rs.map Ch.g⟩ := by rw [e3]; simp
    have ndp' : (idsN g (ls0 ++ ca :: c :: rs)).Nodup := by
     have z : ls0 ++ ca :: c :: rs = (ls0 ++ [ca]) ++ c :: rs := by simp
     rw [z]; simpa using ndp
    have jl : (xs0.concat x).length = xs0.length + 1 := by simp
    show Calls Tryz.prog _ #[ptr g, .int .i64 ((xs0.concat x).length : Nat)] W _
    rw [jl]
    refine (yn8 (j := xs0.length + 1) (xs := xs0) (ls := ls0) (x := x) (ca := ca) (cb := c) hS e3' el e2 (fun d hd => e4 d (by
     rcases List.mem_append.1 hd with z | z
     ·simp [z]
     ·simp [z])) (sa.mono (by omega) (Nat.le_refl _)) s0 (.inl sa) ndp' (by simpa using h6) (.inl ⟨rfl, rfl⟩) c1 (by omega)).mono ?_
    rintro e w ⟨rfl, m', F', d1, d2, d3, c'', d4, d5, d6, d7, d8⟩
    have hf : idsF ⟨g, xs0.concat x, ys, ls0.concat ca, rs⟩ = g :: ((ls0 ++ [ca]) ++ rs).flatMap Ch.I := by simp [idsF]
    refine ⟨rfl, m', F', d1, d2, fun z z1 z2 z3 => d3 z (fun e => z2 (ycg.2 (.inl e))) (fun e => z2 (ycg.2 (.inr ⟨ca, by simp, by rw [e]; exact ye2 sa⟩))) z3, c'', d4, ?_, ?_, d7, fun z hz => ?_⟩
    ·have z : (xs0.concat x ++ ys).length = (xs0 ++ x :: ys).length := by simp
     show Sub m' (h + 1) ((xs0.concat x ++ ys).length - 1) 6 c''
     rw [z]; exact d5
    ·rw [d6]
     have hp : ∀ (l : List Ch) (y : List Item), l.length = y.length → preW (l ++ [ca]) (y ++ [x]) = preW l y ++ (ca.l ++ [x]) := by
      intro l
      induction l with
      | nil => intro y hy; cases y with
       | nil => simp [preW]
       | cons _ _ => simp at hy
      | cons a l ih => intro y hy; cases y with
       | nil => simp at hy
       | cons b y => simp only [List.cons_append, preW]; rw [ih y (by simpa using hy)]; simp
     simp [putIn, hp ls0 xs0 el]
    ·rcases d8 z hz with z1 | z1
     ·have z2 : z ∈ idsN g ((ls0.concat ca) ++ c :: rs) := by simpa using z1
      rcases ykl (f := ⟨g, xs0.concat x, ys, ls0.concat ca, rs⟩) rfl z2 with e | e
      ·exact .inl e
      ·exact .inr (.inl e)
     ·exact .inr (.inr z1)
def ye3 (m : NMap) (top : Option Nat) (L : List Item) (steps : List (Nat × Nat)) (g i : Nat) : Prop :=
 ∃ fs xs x ys, steps = wayC fs ∧ i = xs.length ∧ Ctx m 0 g fs ∧ m g = some ⟨xs ++ x :: ys, []⟩ ∧ loC fs ≤ (xs ++ x :: ys).length ∧ (xs ++ x :: ys).length ≤ 6 ∧ (g :: idsC fs).Nodup ∧ top = some (topC g fs) ∧ L = preC fs ++ ((xs ++ ys) ++ yam fs)
def Sunk (m : NMap) (top : Option Nat) (L : List Item) (steps : List (Nat × Nat)) : Prop :=
 ∃ fs h c, steps = wayC fs ∧ Ctx m h c.g fs ∧ Sub m h (loC fs - 1) 6 c ∧ (c.I ++ idsC fs).Nodup ∧ top = some (topC c.g fs) ∧ L = preC fs ++ (c.l ++ yam fs)
theorem ye3.gone {m : NMap} {top : Option Nat} {L : List Item} {steps : List (Nat × Nat)} {g i : Nat} (H : ye3 m top L steps g i) :
  ∃ its, m g = some ⟨its, []⟩ ∧ i < its.length ∧ its.length ≤ 6 ∧ ∀ m' : NMap, m' g = some ⟨yaj its i, []⟩ → (∀ z, z ≠ g → m' z = m z) → Sunk m' top L steps := by
 obtain ⟨fs, xs, x, ys, hs, rfl, hc, hm, l1, l2, hnd, ht, hL⟩ := H
 refine ⟨_, hm, by simp, l2, fun m' h1 h2 => ?_⟩
 rw [ykh xs ys x rfl] at h1
 have nd1 := List.nodup_cons.1 hnd
 have lx : (xs ++ x :: ys).length = (xs ++ ys).length + 1 := by simp; omega
 exact ⟨fs, 0, ⟨g, xs ++ ys, [g]⟩, hs, hc.congr (fun z hz => h2 z (fun e => nd1.1 (e ▸ hz))), yn4 h1 (by omega) (by omega), by simpa using hnd, ht, hL⟩
theorem Sunk.mend {m : NMap} {top : Option Nat} {L : List Item} {steps : List (Nat × Nat)} {g i : Nat} (H : Sunk m top L (steps ++ [(g, i)])) :
  ∃ f c h, f.g = g ∧ f.xs.length = i ∧ Frm m h c.g f ∧ Sub m h 2 6 c ∧ (c.I ++ idsF f).Nodup ∧ 1 ≤ (f.xs ++ f.ys).length ∧ (f.xs ++ f.ys).length ≤ 6 ∧
   ∀ (W : World) (F : List Nat) (e : Ending) (w : World), Sto W m F → yn9 W F m h f c e w → e = .returned (.tuple #[]) ∧ ∃ m' F', Sto w m' F' ∧ Stp W F w F' ∧ Sunk m' top L steps := by
 obtain ⟨fs, h, c, hs, hc, s, hnd, ht, hL⟩ := H
 cases fs with
 | nil => simp [wayC] at hs
 | cons f fs =>
  obtain ⟨rfl, e⟩ := ykj hs
  injection e with e1 e2
  subst e1 e2
  obtain ⟨hf, l1, l2, hc'⟩ := hc
  have hlo : 1 ≤ loC fs := by cases fs <;> simp [loC]
  have hnd' := hnd
  rw [idsC, ← List.append_assoc] at hnd'
  have nd1 := List.nodup_append.1 hnd'
  refine ⟨f, c, h, rfl, rfl, hf, s, nd1.1, by omega, l2, ?_⟩
  rintro W F e w hS ⟨rfl, m', F', d1, d2, d3, c'', d4, d5, d6, d7, d8⟩
  have hfs : ∀ z ∈ idsC fs, z < W.heap.size := fun z hz => by
   obtain ⟨nd, hn⟩ := hc'.dom z hz
   exact hS.lt z (hS.mem hn)
  have same : ∀ z ∈ idsC fs, m' z = m z := fun z hz => d3 z (fun e => nd1.2.2 z (by simp [e]) z hz rfl) (fun e => nd1.2.2 z (by simp [e]) z hz rfl) (hfs z hz)
  refine ⟨rfl, m', F', d1, d2, fs, h + 1, c'', rfl, by rw [d4]; exact hc'.congr same, d5.mono (by omega) (Nat.le_refl _), ?_, by rw [d4]; exact ht, ?_⟩
  ·rw [List.nodup_append]
   refine ⟨d7, nd1.2.1, fun z hz y hy e => ?_⟩
   subst e
   rcases d8 z hz with q | q | q
   ·exact nd1.2.2 z (by simp [q]) z hy rfl
   ·exact nd1.2.2 z (by simp [q]) z hy rfl
   ·have := hfs z hy; omega
  ·rw [hL, d6]; simp [putIn, preC, yam, List.append_assoc]
theorem Sunk.end {m : NMap} {top : Option Nat} {L : List Item} (H : Sunk m top L []) :
  ∃ t its ps, top = some t ∧ m t = some ⟨its, ps⟩ ∧ its.length ≤ 6 ∧ (its ≠ [] → ybu m top L) ∧ (its = [] → (ps = [] ∧ ybu m none L) ∨ ∃ q, ps = [q] ∧ ybu m (some q) L) := by
 obtain ⟨fs, h, c, hs, hc, s, hnd, rfl, rfl⟩ := H
 cases fs with
 | cons f fs => simp [wayC] at hs
 | nil =>
  obtain ⟨its, cs, a1, a2, a3, a4, a5, a6⟩ := s
  refine ⟨c.g, its, _, rfl, a1, a3, fun hn => ?_, fun hn => ?_⟩
  ·have l1 : 1 ≤ its.length := by cases its with | nil => exact absurd rfl hn | cons _ _ => simp
   exact Ctx.tree hc ⟨its, cs, a1, l1, a3, a4, a5, a6⟩ hnd
  ·subst hn
   cases h with
   | zero =>
    rw [ybd.1 a4] at a5 ⊢
    exact .inl ⟨rfl, by show _ = []; rw [a5]; rfl⟩
   | succ h =>
    obtain ⟨k1, k2⟩ := ybi.1 a4
    match cs, k1 with
    | [d], _ =>
     refine .inr ⟨d.g, rfl, h, d.I, ?_, ?_⟩
     ·have s := k2 d (by simp)
      have e : preC [] ++ (c.l ++ yam []) = d.l := by rw [a5]; simp [preC, yam, yab]
      rw [e]; exact s.mono (by omega) (Nat.le_refl _)
     ·rw [a6] at hnd
      simpa [idsC] using (List.nodup_cons.1 (List.nodup_append.1 hnd).1).2
def Edge : List Fr → Prop
 | [] => True
 | f :: fs => f.ys = [] ∧ f.rs = [] ∧ Edge fs
theorem Edge.post : ∀ {sp : List Fr}, Edge sp → ∀ fs, yam (sp ++ fs) = yam fs
 | [], _, _ => rfl
 | f :: sp, ⟨h1, h2, h3⟩, fs => by rw [List.cons_append, yam, h1, h2, Edge.post h3]; rfl
theorem yoa : ∀ (sp fs : List Fr) (f f' : Fr) (p : Nat), f.g = f'.g → topC p (sp ++ f :: fs) = topC p (sp ++ f' :: fs)
 | [], fs, f, f', p, h => by simp [topC, h]
 | s :: sp, fs, f, f', p, h => by simp only [List.cons_append, topC]; exact yoa sp fs f f' s.g h
theorem yob : ∀ (sp fs : List Fr) (f f' : Fr), f.ls = f'.ls → f.xs = f'.xs → preC (sp ++ f :: fs) = preC (sp ++ f' :: fs)
 | [], fs, f, f', h1, h2 => by simp [preC, h1, h2]
 | s :: sp, fs, f, f', h1, h2 => by simp only [List.cons_append, preC]; rw [yob sp fs f f' h1 h2]
theorem yoc : ∀ (sp fs : List Fr) (f f' : Fr), f.g = f'.g → f.xs = f'.xs → wayC (sp ++ f :: fs) = wayC (sp ++ f' :: fs)
 | [], fs, f, f', h1, h2 => by simp [wayC, h1, h2]
 | s :: sp, fs, f, f', h1, h2 => by simp only [List.cons_append, wayC]; rw [yoc sp fs f f' h1 h2]
theorem yod : ∀ (sp fs : List Fr) (f f' : Fr), idsF f = idsF f' → idsC (sp ++ f :: fs) = idsC (sp ++ f' :: fs)
 | [], fs, f, f', h1 => by simp [idsC, h1]
 | s :: sp, fs, f, f', h1 => by simp only [List.cons_append, idsC]; rw [yod sp fs f f' h1]
theorem ywg : ∀ (sp fs : List Fr) (f f' : Fr), loC (sp ++ f :: fs) = loC (sp ++ f' :: fs)
 | [], _, _, _ => rfl
 | _ :: _, _, _, _ => rfl
theorem yoe {sp fs : List Fr} {f : Fr} {z : Nat} : z ∈ idsC (sp ++ f :: fs) ↔ z ∈ idsC sp ∨ z ∈ idsF f ∨ z ∈ idsC fs := by
 induction sp with
 | nil => simp [idsC]
 | cons s sp ih => simp only [List.cons_append, idsC, List.mem_append, ih, or_assoc]
theorem Ctx.reset {m m' : NMap} : ∀ {sp fs : List Fr} {f f' : Fr} {h p : Nat}, Ctx m h p (sp ++ f :: fs) → f'.g = f.g → f'.xs = f.xs → f'.ls = f.ls → f'.rs = f.rs → f'.ys.length = f.ys.length → (idsC (sp ++ f :: fs)).Nodup →
  m' f.g = some ⟨f'.xs ++ f'.ys, ((m f.g).getD ⟨[], []⟩).ps⟩ → (∀ z, z ≠ f.g → m' z = m z) → Ctx m' h p (sp ++ f' :: fs)
 | [], fs, f, f', h, p, hc, e1, e2, e3, e4, e5, hnd, h1, h2 => by
  obtain ⟨hf, l1, l2, hc'⟩ := hc
  have nd := List.nodup_append.1 hnd
  have ndf := List.nodup_cons.1 nd.1
  rw [hf.at_] at h1
  have lz : (f'.xs ++ f'.ys).length = (f.xs ++ f.ys).length := by rw [List.length_append, List.length_append, e2, e5]
  refine ⟨⟨by rw [e1, h1, e3, e4]; rfl, by rw [e3, e2]; exact hf.left, by rw [e4, e5]; exact hf.right, fun d hd => ?_⟩, by rw [lz]; exact l1, by rw [lz]; exact l2, by rw [e1]; exact hc'.congr (fun z hz => h2 z (fun e => nd.2.2 f.g (ycg.2 (.inl rfl)) z hz e.symm))⟩
  rw [e3, e4] at hd
  exact (hf.kids d hd).congr (fun z hz => h2 z (fun e => ndf.1 (List.mem_flatMap.2 ⟨d, hd, e ▸ hz⟩)))
 | s :: sp, fs, f, f', h, p, hc, e1, e2, e3, e4, e5, hnd, h1, h2 => by
  obtain ⟨hf, l1, l2, hc'⟩ := hc
  have nd := List.nodup_append.1 hnd
  have hfg : f.g ∈ idsC (sp ++ f :: fs) := yoe.2 (.inr (.inl (ycg.2 (.inl rfl))))
  refine ⟨hf.congr (fun z hz => h2 z (fun e => nd.2.2 z hz f.g hfg e)), Nat.le_trans (Nat.le_of_eq (ywg sp fs f' f)) l1, l2, Ctx.reset hc' e1 e2 e3 e4 e5 nd.2.1 h1 h2⟩
def yeh (m : NMap) (top : Option Nat) (L : List Item) (steps : List (Nat × Nat)) (g0 i0 q h : Nat) : Prop :=
 ∃ sp f fs x ys d Z, Edge sp ∧ f.g = g0 ∧ f.xs.length = i0 ∧ f.ys = x :: ys ∧ d.g = q ∧ steps = wayC (sp ++ f :: fs) ∧ Ctx m h d.g (sp ++ f :: fs) ∧ Sub m h 3 6 d ∧ (d.I ++ idsC (sp ++ f :: fs)).Nodup ∧ top = some (topC d.g (sp ++ f :: fs)) ∧
  (∀ y, yba (y :: ys) f.rs ++ yam fs = y :: Z) ∧ L = preC (sp ++ f :: fs) ++ (d.l ++ Z)
def ykm (m : NMap) (top : Option Nat) (L : List Item) (steps : List (Nat × Nat)) (g0 i0 g n : Nat) : Prop :=
 ∃ its0 p its ps, m g = some ⟨its0 ++ [p], []⟩ ∧ its0.length = n ∧ n ≤ 5 ∧ m g0 = some ⟨its, ps⟩ ∧ its.length ≤ 6 ∧ i0 < its.length ∧ g ≠ g0 ∧ ∀ m' : NMap, m' g0 = some ⟨its.set i0 p, ps⟩ → (∀ z, z ≠ g0 → m' z = m z) → ye3 m' top L steps g n
theorem Found.lower {m : NMap} {top : Option Nat} {l : List Item} {k u : ByteArray} {steps : List (Nat × Nat)} {g i : Nat} (H : Found m top l k u steps g i) :
  ∃ its ps, m g = some ⟨its, ps⟩ ∧ i < its.length ∧ its.length ≤ 6 ∧ (ps = [] ∨ ps.length = its.length + 1) ∧ (ps = [] → ye3 m top (delN l k) steps g i) ∧ ∀ q, ps[i]? = some q → ∃ h, yeh m top (delN l k) (steps ++ [(g, i)]) g i q h := by
 obtain ⟨A, B, hl, hA, _, _, hdel⟩ := H.cut
 obtain ⟨fs, h, xs, ys, cs, hs, rfl, hc, hm, hk, l1, l2, hnd, ht, hl2, hu⟩ := H
 refine ⟨_, _, hm, by simp, l2, ?_, fun hp => ?_, fun q hq => ?_⟩
 ·rcases hk.ps with ⟨_, z⟩ | ⟨_, z⟩
  ·exact .inl z
  ·exact .inr z
 ·rcases hk.ps with ⟨rfl, _⟩ | ⟨_, z⟩
  ·have hcs := ybd.1 hk
   subst hcs
   rw [yef] at hl2
   have hu2 : ya7 (preC fs ++ xs) k := by simpa [yef] using hu
   have hdel2 : delN l k = preC fs ++ ((xs ++ ys) ++ yam fs) := by
    rw [hl2, show preC fs ++ ((xs ++ (k, u) :: ys) ++ yam fs) = (preC fs ++ xs) ++ (k, u) :: (ys ++ yam fs) by simp]
    rw [show delN ((preC fs ++ xs) ++ (k, u) :: (ys ++ yam fs)) k = _ from yf9 (x := (k, u)) hu2 _]
    simp
   exact ⟨fs, xs, (k, u), ys, hs, rfl, hc, hm, l1, l2, by simpa using hnd, ht, hdel2⟩
  ·rw [hp] at z; simp at z
 ·cases h with
  | zero => rw [ybd.1 hk] at hq; simp at hq
  | succ h =>
   obtain ⟨d, e1, e2, e3, e4, e5⟩ := Sub.down (c := ⟨g, yab cs (xs ++ (k, u) :: ys), g :: cs.flatMap Ch.I⟩) (i := xs.length) hm hk rfl rfl (by simp) l1 l2
   have t1 : (xs ++ (k, u) :: ys).take xs.length = xs := by simp
   have t2 : (xs ++ (k, u) :: ys).drop xs.length = (k, u) :: ys := by simp
   rw [t1, t2] at e3 e4 e5
   have hqd : q = d.g := by
    rw [List.getElem?_map, e1] at hq
    exact (Option.some.inj hq).symm
   subst hqd
   have w2 := e3.right
   obtain ⟨b, rs, hrs⟩ : ∃ b rs, cs.drop (xs.length + 1) = b :: rs := by
    cases hz : cs.drop (xs.length + 1) with
    | nil => have w3 : (cs.drop (xs.length + 1)).length = ys.length + 1 := w2; rw [hz] at w3; simp at w3
    | cons b rs => exact ⟨b, rs, rfl⟩
   rw [hrs] at e3 e4 e5
   refine ⟨h, [], ⟨g, xs, (k, u) :: ys, cs.take xs.length, b :: rs⟩, fs, (k, u), ys, d, b.l ++ (yba ys rs ++ yam fs), trivial, rfl, rfl, rfl, rfl, by rw [hs]; rfl, ⟨e3, l1, l2, hc⟩, e2, ?_, ht, fun y => by simp [yba], ?_⟩
   ·rw [List.nil_append, idsC, ← List.append_assoc]
    have e5' : g :: cs.flatMap Ch.I = (putIn ⟨g, xs, (k, u) :: ys, cs.take xs.length, b :: rs⟩ d).I := e5
    rw [e5'] at hnd
    exact (((ygy _ d).append_right _).nodup_iff).1 hnd
   ·have e4' : yab cs (xs ++ (k, u) :: ys) = preW (cs.take xs.length) xs ++ (d.l ++ yba ((k, u) :: ys) (b :: rs)) := e4
    have hl3 : l = (preC fs ++ (preW (cs.take xs.length) xs ++ d.l)) ++ (k, u) :: (b.l ++ (yba ys rs ++ yam fs)) := by rw [hl2, e4']; simp [yba]
    have hu3 : ya7 (preC fs ++ (preW (cs.take xs.length) xs ++ d.l)) k := by
     have hw := yfv hk (i := xs.length) (x := (k, u)) (by simp)
     rw [t1] at hw
     have q1 : yab (cs.take (xs.length + 1)) xs = preW (cs.take xs.length) xs ++ d.l := by
      have z1 : cs.take (xs.length + 1) = cs.take xs.length ++ [d] := by
       rw [List.take_add_one, e1]; rfl
      have z2 := ygx (ls := cs.take xs.length) (xs := xs) (c := d) (rs := []) (ys := []) e3.left rfl
      rw [z1]
      simpa [yba] using z2
     rw [q1] at hu
     exact hu
    rw [hl3, show delN ((preC fs ++ (preW (cs.take xs.length) xs ++ d.l)) ++ (k, u) :: (b.l ++ (yba ys rs ++ yam fs))) k = _ from yf9 (x := (k, u)) hu3 _]
    simp [preC]
theorem yeh.step {m : NMap} {top : Option Nat} {L : List Item} {steps : List (Nat × Nat)} {g0 i0 q h : Nat} (H : yeh m top L steps g0 i0 q h) :
  ∃ its ps, m q = some ⟨its, ps⟩ ∧ 3 ≤ its.length ∧ its.length ≤ 6 ∧ (ps = [] ∨ ps.length = its.length + 1) ∧ (ps = [] → ykm m top L steps g0 i0 q (its.length - 1)) ∧ ∀ r, ps[its.length]? = some r → 0 < h ∧ yeh m top L (steps ++ [(q, its.length)]) g0 i0 r (h - 1) := by
 obtain ⟨sp, f, fs, x, ys, d, Z, hE, rfl, rfl, hy, rfl, rfl, hc, s, hnd, ht, hZ, hL⟩ := H
 have s0 := s
 obtain ⟨its, cs, a1, a2, a3, a4, a5, a6⟩ := s
 refine ⟨its, _, a1, a2, a3, ?_, fun hp => ?_, fun r hr => ?_⟩
 ·rcases a4.ps with ⟨_, z⟩ | ⟨_, z⟩
  ·exact .inl z
  ·exact .inr z
 ·rcases a4.ps with ⟨rfl, _⟩ | ⟨_, z⟩
  ·have hcs := ybd.1 a4
   subst hcs
   rw [yef] at a5
   obtain ⟨its0, p, rfl⟩ : ∃ its0 p, its = its0 ++ [p] := by
    rcases List.eq_nil_or_concat its with rfl | ⟨a, b, rfl⟩
    ·simp at a2
    ·exact ⟨a, b, by simp⟩
   have hfm : ∃ ps, m f.g = some ⟨f.xs ++ f.ys, ps⟩ := by
    have : ∀ (sp : List Fr) (h p : Nat), Ctx m h p (sp ++ f :: fs) → ∃ ps, m f.g = some ⟨f.xs ++ f.ys, ps⟩ := by
     intro sp
     induction sp with
     | nil => intro h p hc; exact ⟨_, hc.1.at_⟩
     | cons s sp ih => intro h p hc; exact ih _ _ hc.2.2.2
    exact this sp 0 d.g hc
   obtain ⟨ps, hfm⟩ := hfm
   have hfl : (f.xs ++ f.ys).length ≤ 6 := by
    have : ∀ (sp : List Fr) (h p : Nat), Ctx m h p (sp ++ f :: fs) → (f.xs ++ f.ys).length ≤ 6 := by
     intro sp
     induction sp with
     | nil => intro h p hc; exact hc.2.2.1
     | cons s sp ih => intro h p hc; exact ih _ _ hc.2.2.2
    exact this sp 0 d.g hc
   have nd1 := List.nodup_append.1 hnd
   have hne : d.g ≠ f.g := fun e => nd1.2.2 d.g (ye2 s0) f.g (yoe.2 (.inr (.inl (ycg.2 (.inl rfl))))) e
   refine ⟨its0, p, _, ps, a1, by simp, by simp at a3 ⊢; omega, hfm, hfl, by rw [hy]; simp, hne, fun m' h1 h2 => ?_⟩
   have hset : (f.xs ++ f.ys).set f.xs.length p = f.xs ++ p :: ys := by
    rw [hy, List.set_append_right _ _ (Nat.le_refl _)]; simp
   rw [hset] at h1
   have hc2 : Ctx m' 0 d.g (sp ++ ⟨f.g, f.xs, p :: ys, f.ls, f.rs⟩ :: fs) :=
    Ctx.reset (f' := ⟨f.g, f.xs, p :: ys, f.ls, f.rs⟩) hc rfl rfl rfl rfl (by rw [hy]; rfl) nd1.2.1 (by rw [hfm]; exact h1) h2
   have e1 : idsF f = idsF ⟨f.g, f.xs, p :: ys, f.ls, f.rs⟩ := rfl
   refine ⟨sp ++ ⟨f.g, f.xs, p :: ys, f.ls, f.rs⟩ :: fs, its0, p, [], yoc _ _ _ _ rfl rfl, by simp, hc2, ?_, ?_, a3, ?_, ?_, ?_⟩
   ·rw [h2 d.g hne]; exact a1
   ·have : loC (sp ++ ⟨f.g, f.xs, p :: ys, f.ls, f.rs⟩ :: fs) ≤ 3 := by cases sp <;> simp [loC]
    omega
   ·rw [← yod sp fs f _ e1]
    rw [a6] at hnd
    simpa using hnd
   ·rw [ht, yoa sp fs f ⟨f.g, f.xs, p :: ys, f.ls, f.rs⟩ d.g rfl]
   ·rw [hL, a5, yob sp fs f ⟨f.g, f.xs, p :: ys, f.ls, f.rs⟩ rfl rfl, hE.post, yam]
    have z := hZ p
    show _ = _ ++ ((its0 ++ []) ++ (yba (p :: ys) f.rs ++ yam fs))
    rw [z]; simp
  ·rw [hp] at z; simp at z
 ·cases h with
  | zero => rw [ybd.1 a4] at hr; simp at hr
  | succ h =>
   obtain ⟨d2, e1, e2, e3, e4, e5⟩ := Sub.down a1 a4 a5 a6 (Nat.le_refl _) a2 a3
   have hqd : r = d2.g := by
    rw [List.getElem?_map, e1] at hr
    exact (Option.some.inj hr).symm
   subst hqd
   have t1 : its.take its.length = its := List.take_of_length_le (Nat.le_refl _)
   have t2 : its.drop its.length = [] := List.drop_of_length_le (Nat.le_refl _)
   have t3 : cs.drop (its.length + 1) = [] := List.drop_of_length_le (by rw [(ybi.1 a4).1]; omega)
   rw [t1, t2, t3] at e3 e4 e5
   refine ⟨by omega, ⟨d.g, its, [], cs.take its.length, []⟩ :: sp, f, fs, x, ys, d2, Z, ⟨rfl, rfl, hE⟩, rfl, rfl, hy, rfl, rfl, ⟨e3, ?_, by simpa using a3, hc⟩, e2, ?_, ht, hZ, ?_⟩
   ·have : loC (sp ++ f :: fs) ≤ 3 := by cases sp <;> simp [loC]
    show loC (sp ++ f :: fs) ≤ (its ++ []).length
    rw [List.append_nil]; omega
   ·rw [List.cons_append, idsC, ← List.append_assoc]
    rw [e5] at hnd
    exact (((ygy _ d2).append_right _).nodup_iff).1 hnd
   ·rw [hL, e4]; simp [preC, yba]
def ybq : Option Nat → Value
 | none => .pointer none
 | some g => .pointer (some ⟨g, 0, none⟩)
structure ShX (W : World) (gs : Nat) (top : Option Nat) (n most : Int) : Prop where
 lt : gs < W.heap.size
 c0 : W.cell? ⟨gs, 0, none⟩ = some (ybq top)
 c1 : W.cell? ⟨gs, 1, none⟩ = some (.int .i64 n)
 c2 : W.cell? ⟨gs, 2, none⟩ = some (.int .i64 most)
 c3 : W.cell? ⟨gs, 3, none⟩ = some (.bool true)
 f0 : W.frozen? ⟨gs, 0, none⟩ = false
 f1 : W.frozen? ⟨gs, 1, none⟩ = false
theorem ShX.touch {W W1 : World} {gs : Nat} {top : Option Nat} {n most : Int} {G : List Nat} (h : ShX W gs top n most) (ht : Touch G W W1) (hg : gs ∉ G) : ShX W1 gs top n most :=
 ⟨Nat.lt_of_lt_of_le h.lt ht.size, (ht.cell (p := ⟨gs, 0, none⟩) h.lt hg).trans h.c0, (ht.cell (p := ⟨gs, 1, none⟩) h.lt hg).trans h.c1, (ht.cell (p := ⟨gs, 2, none⟩) h.lt hg).trans h.c2, (ht.cell (p := ⟨gs, 3, none⟩) h.lt hg).trans h.c3,
  (ht.frozen (p := ⟨gs, 0, none⟩) h.lt hg).trans h.f0, (ht.frozen (p := ⟨gs, 1, none⟩) h.lt hg).trans h.f1⟩
theorem ShX.set0 {W : World} {gs : Nat} {top top' : Option Nat} {n most : Int} (h : ShX W gs top n most) : ShX (W.setCell ⟨gs, 0, none⟩ (ybq top')) gs top' n most := by
 obtain ⟨a, b, c, d, e, f, g⟩ := h
 refine ⟨by simpa [World.setCell] using a, World.cell?_setCell_same _ _ _ b, ?_, ?_, ?_, ?_, ?_⟩
 ·rw [World.cell?_setCell_other _ _ _ _ (by simp)]; exact c
 ·rw [World.cell?_setCell_other _ _ _ _ (by simp)]; exact d
 ·rw [World.cell?_setCell_other _ _ _ _ (by simp)]; exact e
 ·rw [World.frozen?_setCell]; exact f
 ·rw [World.frozen?_setCell]; exact g
theorem ShX.set1 {W : World} {gs : Nat} {top : Option Nat} {n n' most : Int} (h : ShX W gs top n most) : ShX (W.setCell ⟨gs, 1, none⟩ (.int .i64 n')) gs top n' most := by
 obtain ⟨a, b, c, d, e, f, g⟩ := h
 refine ⟨by simpa [World.setCell] using a, ?_, World.cell?_setCell_same _ _ _ c, ?_, ?_, ?_, ?_⟩
 ·rw [World.cell?_setCell_other _ _ _ _ (by simp)]; exact b
 ·rw [World.cell?_setCell_other _ _ _ _ (by simp)]; exact d
 ·rw [World.cell?_setCell_other _ _ _ _ (by simp)]; exact e
 ·rw [World.frozen?_setCell]; exact f
 ·rw [World.frozen?_setCell]; exact g
def SH (W : World) (gs : Nat) (most : Int) (l : List Item) (F : List Nat) : Prop :=
 ∃ top m F1, ShX W gs top (l.length : Nat) most ∧ Sto W m F1 ∧ gs ∉ F1 ∧ F = gs :: F1 ∧ ybu m top l ∧ yah l ∧ (l.length : Int) ≤ most ∧ most ≤ 200
theorem SH.touch {W W1 : World} {gs : Nat} {most : Int} {l : List Item} {F G : List Nat} (h : SH W gs most l F) (ht : Touch G W W1) (hG : ∀ q ∈ F, q ∉ G) : SH W1 gs most l F := by
 obtain ⟨top, m, F1, a, b, c, rfl, d⟩ := h
 exact ⟨top, m, F1, a.touch ht (hG gs (by simp)), b.touch ht (fun q hq => hG q (by simp [hq])), c, rfl, d⟩
theorem SH.ltF {W : World} {gs : Nat} {most : Int} {l : List Item} {F : List Nat} (h : SH W gs most l F) : ∀ q ∈ F, q < W.heap.size := by
 obtain ⟨top, m, F1, a, b, c, rfl, d⟩ := h
 intro q hq
 rcases List.mem_cons.1 hq with e | e
 ·rw [e]; exact a.lt
 ·exact b.lt q e
theorem ygz (gs : Nat) {top : Option Nat} {n most : Int} (W : World) (h : ShX W gs top n most) :
  Calls Tryz.prog 167 #[.pointer (some ⟨gs, 0, none⟩)] W fun e w => e = .returned (.bool true) ∧ W = w := by
 obtain ⟨a, b, c, d, e, f, g⟩ := h
 go_enter Tryz.func167, Tryz.ntmps167
 go_wp2
 go_ret
 exact ⟨rfl, rfl⟩
def yof (W : World) (most : Int) (e : Ending) (w' : World) : Prop :=
 ∃ g F, e = .returned (.pointer (some ⟨g, 0, none⟩)) ∧ SH w' g (min (max most 0) 200) [] F ∧ (∀ q ∈ F, W.heap.size ≤ q) ∧ Below W.heap.size W w'
theorem ywh (W : World) (most r : Int) (hr : r = min (max most 0) 200) (T : TypeId) : yof W most (.returned (.pointer (some ⟨W.heap.size, 0, none⟩))) (W.alloc (.cells #[.pointer none, .int .i64 0, .int .i64 r, .bool true] T)) := by
 subst hr
 exact ⟨W.heap.size, [W.heap.size], rfl, ⟨none, fun _ => none, [], ⟨by simp, by go_simp; rfl, by go_simp, by go_simp, by go_simp, by go_simp, by go_simp⟩, Sto.empty _, by simp, rfl, rfl, yah.nil, by simp; omega, by omega⟩, by simp, (Below.refl _ _).alloc (Nat.le_refl _) _⟩
theorem ywi (W : World) (most : Int) (_h0 : -9223372036854775808 ≤ most) (_h1 : most ≤ 9223372036854775807) : Calls Tryz.prog 114 #[.int .i64 most] W (yof W most) := by
 go_enter Tryz.func114, Tryz.ntmps114
 go_wp2
 all_goals
  go_ret
  refine ywh W most _ ?_ _
  first | omega | (split at * <;> omega)
theorem ywj {W : World} {gs : Nat} {most : Int} {l : List Item} {F : List Nat} (h : SH W gs most l F) :
  Calls Tryz.prog 125 #[.pointer (some ⟨gs, 0, none⟩)] W fun e w' => e = .returned (.int .i64 (l.length : Nat)) ∧ Below W.heap.size W w' := by
 obtain ⟨top, m, F1, hX, -⟩ := h
 have CR := Lib.hid (ygz gs W hX)
 have c1 := hX.c1
 generalize ((l.length : Nat) : Int) = n at *
 clear hX
 go_enter Tryz.func125, Tryz.ntmps125
 go_wp2_with (go_at_call 167; ((with_reducible refine (CR.out).mono ?_); rintro e w1 ⟨rfl, rfl⟩))
 go_ret
 exact ⟨rfl, Below.refl _ _⟩
theorem yei (W : World) {m : NMap} {F : List Nat} (hS : Sto W m F) {g i : Nat} {its : List Item} {ps : List Nat} (hm : m g = some ⟨its, ps⟩) (hp : ps.length ≤ 100000) :
  (ps = [] → Calls Tryz.prog 192 #[.pointer (some ⟨g, 0, none⟩), .int .i64 (i : Nat)] W fun e w => e = .returned (.pointer none) ∧ W = w) ∧
  (∀ q, ps[i]? = some q → Calls Tryz.prog 192 #[.pointer (some ⟨g, 0, none⟩), .int .i64 (i : Nat)] W fun e w => e = .returned (.pointer (some ⟨q, 0, none⟩)) ∧ W = w) := by
 obtain ⟨v, u, hN, -, -⟩ := hS.at hm
 have hN : NdX W g its ps v u := hN
 refine ⟨fun h => ?_, fun q hq => ?_⟩
 ·subst h
  exact yvn g i W hN
 ·obtain ⟨hi, rfl⟩ := List.getElem?_eq_some_iff.1 hq
  exact yvo g i W hN hi hp
theorem yog (W : World) {m : NMap} {F : List Nat} (hS : Sto W m F) {g : Nat} {its : List Item} {ps : List Nat} (hm : m g = some ⟨its, ps⟩) (hp : ps.length ≤ 100000) :
  (ps = [] → Calls Tryz.prog 192 #[.pointer (some ⟨g, 0, none⟩), .int .i64 0] W fun e w => e = .returned (.pointer none) ∧ W = w) ∧
  (∀ q, ps[0]? = some q → Calls Tryz.prog 192 #[.pointer (some ⟨g, 0, none⟩), .int .i64 0] W fun e w => e = .returned (.pointer (some ⟨q, 0, none⟩)) ∧ W = w) := yei W hS (i := 0) hm hp
theorem yoh : ∀ {cs : List Ch} {its : List Item}, cs.length = its.length + 1 → (yab cs its).length = (cs.map fun c => c.l.length).sum + its.length
 | [c], [], _ => by simp [yab]
 | c :: cs, x :: its, h => by
  rw [yab, List.length_append, List.length_cons, yoh (by simpa using h), List.map_cons, List.sum_cons, List.length_cons]; omega
 | [], _, h => by simp at h
 | _ :: _ :: _, [], h => by simp at h
theorem Sub.many {m : NMap} : ∀ {h lo hi : Nat} {c : Ch}, Sub m h lo hi c → (lo + 1) * 4 ^ h ≤ c.l.length + 1
 | 0, lo, hi, c, ⟨its, cs, a1, a2, a3, a4, a5, a6⟩ => by rw [a5, ybd.1 a4, yef]; simp; omega
 | h + 1, lo, hi, c, ⟨its, cs, a1, a2, a3, a4, a5, a6⟩ => by
  obtain ⟨k1, k2⟩ := ybi.1 a4
  have hb : ∀ d ∈ cs, 4 ^ (h + 1) ≤ d.l.length + 1 := fun d hd => by
   have := Sub.many (h := h) (k2 d hd)
   rw [Nat.pow_succ]; omega
  have hs : ∀ cs : List Ch, (∀ d ∈ cs, 4 ^ (h + 1) ≤ d.l.length + 1) → cs.length * 4 ^ (h + 1) ≤ (cs.map fun c => c.l.length).sum + cs.length := by
   intro cs
   induction cs with
   | nil => intro _; simp
   | cons d cs ih =>
    intro hb
    have h1 := hb d (by simp)
    have h2 := ih (fun e he => hb e (by simp [he]))
    rw [List.length_cons, List.map_cons, List.sum_cons, Nat.add_mul]; omega
  have h1 := hs cs hb
  rw [a5, yoh k1]
  have h2 : (lo + 1) * 4 ^ (h + 1) ≤ cs.length * 4 ^ (h + 1) := Nat.mul_le_mul_right _ (by omega)
  omega
theorem ywk {m : NMap} {h t : Nat} {l : List Item} {I : List Nat} (s : Sub m h 1 6 ⟨t, l, I⟩) : h + 1 ≤ yif l.length ∧ l.length ≠ 0 := by
 have h1 := s.many
 have h2 : 1 ≤ 4 ^ h := Nat.pow_pos (by omega)
 have h3 : (1 + 1) * 4 ^ h ≤ l.length + 1 := h1
 exact ⟨yui (by omega), by omega⟩
def ya1 (l : List (Nat × Nat)) : List Value := l.flatMap fun s => [Value.pointer (some ⟨s.1, 0, none⟩), Value.int .i64 (s.2 : Nat)]
theorem yfw (a b : List (Nat × Nat)) : ya1 (a ++ b) = ya1 a ++ ya1 b := by simp [ya1]
theorem yim : ∀ l : List (Nat × Nat), (ya1 l).length = l.length * 2
 | [] => rfl
 | x :: l => by rw [show x :: l = [x] ++ l from rfl, yfw, List.length_append, yim l]; simp [ya1]; omega
theorem ye4 : ∀ (l : List (Nat × Nat)), ∀ u ∈ ya1 l, u.oneCell' = true := by
 intro l u h
 obtain ⟨s, _, hs⟩ := List.mem_flatMap.1 h
 simp at hs
 rcases hs with rfl | rfl <;> rfl
theorem yoi : ∃ i, Tryz.prog.info? 232 = some i ∧ i.zero = some (.agg #[.pointer none, .int .i64 0]) ∧ i.size = 2 ∧ i.bytes = 16 := by
 have h : (Tryz.prog.info? 232).map (fun i => (i.zero, i.size, i.bytes)) = some (some (.agg #[.pointer none, .int .i64 0]), 2, 16) := by kernel_rfl
 obtain ⟨i, hi, hx⟩ := Option.map_eq_some_iff.1 h
 simp only [Prod.mk.injEq] at hx
 exact ⟨i, hi, hx⟩
abbrev WRow (W : World) (b : Nat) (v : Value) (l : List (Nat × Nat)) : Prop := W.ownsRow b 232 2 v l.length (ya1 l)
def ywl (W : World) (m : NMap) (top : Option Nat) (l : List Item) (k : ByteArray) (e : Ending) (w : World) : Prop :=
 ∃ steps A c b, e = .returned (.tuple #[.slice A steps.length c, .bool b]) ∧ WRow w W.heap.size (.slice A steps.length c) steps ∧ Below W.heap.size W w ∧
  ((b = true ∧ ∃ st g i u, steps = st ++ [(g, i)] ∧ Found m top l k u st g i) ∨ (b = false ∧ yeg m top l k steps))
theorem ye5 {w w' : World} {b n : Nat} {v v' : Value} {l : List (Nat × Nat)} {g i : Nat} (_h : WRow w b v l) (k : w'.ownsRow b 232 2 v' n (ya1 l ++ ya1 [(g, i)])) (hn : n = l.length + 1) : WRow w' b v' (l ++ [(g, i)]) := by
 subst hn
 rw [← yfw] at k
 have e : (l ++ [(g, i)]).length = l.length + 1 := by simp
 show World.ownsRow _ _ _ _ _ _ _
 rw [e]; exact k
theorem ye6 {w : World} {b c : Nat} {A : Option Addr} {l : List (Nat × Nat)} {x : Nat × Nat} (h : WRow w b (.slice A (l.length + 1) c) (l ++ [x])) : WRow w b (.slice A (l ++ [x]).length c) (l ++ [x]) := by
 have e : (l ++ [x]).length = l.length + 1 := by simp
 rw [e]; exact h
theorem ye7 (Wc : World) (b g : Nat) (i : Int) (j : Nat) (hi : i = j) (hh : Wc.heap[b]? = some (.cells #[.pointer (some ⟨g, 0, none⟩), .int .i64 i] 232 (0, 0))) : From Wc 2 (.slice (some ⟨b, 0, none⟩) 1 1) 1 (ya1 [(g, j)]) := by
 subst hi
 refine .inr ⟨_, _, rfl, rfl, fun j' u hj => ?_⟩
 rw [Go.WideShapes.add_plain, Nat.zero_add, cell_of_row Wc b j' _ 232 (0, 0) hh]
 simpa [ya1] using hj
theorem yoj {W : World} {gs : Nat} {top : Option Nat} {n most : Int} {m : NMap} {F : List Nat} {l : List Item} (k : ByteArray) (hX : ShX W gs top n most) (hS : Sto W m F) (hT : ybu m top l) (hr : yah l) (hl : l.length ≤ 200) :
  Calls Tryz.prog 182 #[.pointer (some ⟨gs, 0, none⟩), .string k] W (ywl W m top l k) := by
 have CR := Lib.hid (ygz gs W hX)
 have c0 := hX.c0
 obtain ⟨i0, hi0, hz0, hs0, hb0⟩ := yoi
 obtain ⟨p0, h0, hp0, hh0, hst⟩ : ∃ (p0 : Value) (h0 : Nat), ybq top = p0 ∧ h0 ≤ 300 ∧ ((∃ p, p0 = .pointer (some ⟨p, 0, none⟩) ∧ ydv m top l k [] p h0) ∨ (p0 = .pointer none ∧ yeg m top l k [])) := by
  cases top with
  | none => exact ⟨_, 0, rfl, by omega, .inr ⟨rfl, .inl ⟨rfl, rfl, hT⟩⟩⟩
  | some t =>
   obtain ⟨h, I, s, hnd⟩ := hT
   obtain ⟨d1, d2⟩ := ywk s
   have d3 := yuh l.length
   rw [yif, if_neg d2] at d1
   exact ⟨_, h, rfl, by omega, .inl ⟨t, rfl, ydv.start s hnd⟩⟩
 rw [hp0] at c0
 have HST : Hid ((∃ p, p0 = .pointer (some ⟨p, 0, none⟩) ∧ ydv m top l k [] p h0) ∨ (p0 = .pointer none ∧ yeg m top l k [])) := hst
 have HS := Lib.hid hS
 have HR := Lib.hid hr
 clear hX hS hT hr hst hp0
 go_enter Tryz.func182, Tryz.ntmps182
 go_wp2
 go_step3
 go_wp2_with (go_at_call 167; ((with_reducible refine (CR.out).mono ?_); rintro e w1 ⟨rfl, rfl⟩))
 go_step3
 go_wp2
 go_loopg [6, 7] (h0 + 3) (fun gh s6 s7 wx => ∃ steps A c, s6 = .slice A steps.length c ∧ steps.length ≤ h0 + 1 ∧ Hid (WRow wx W.heap.size (.slice A steps.length c) steps) ∧ Hid (Below W.heap.size W wx) ∧ ((∃ p h, s7 = .pointer (some ⟨p, 0, none⟩) ∧ Hid (ydv m top l k steps p h) ∧ steps.length + h = h0 ∧ h + 2 ≤ gh) ∨ (s7 = .pointer none ∧ Hid (yeg m top l k steps) ∧ 1 ≤ gh)))
 case atStart =>
  rcases HST.out with ⟨p, rfl, hA⟩ | ⟨rfl, hM⟩
  ·exact ⟨[], none, 0, rfl, by simp, World.ownsRow_nil _ _ _ _, Below.refl _ _, .inl ⟨p, h0, rfl, hA, by simp, by omega⟩⟩
  ·exact ⟨[], none, 0, rfl, by simp, World.ownsRow_nil _ _ _ _, Below.refl _ _, .inr ⟨rfl, hM, by omega⟩⟩
 case round =>
  obtain ⟨steps, A, c, rfl, hsl, HO, HB, hcase⟩ := hrel
  rcases hcase with ⟨p, h, rfl, HA, hsh, hgh⟩ | ⟨rfl, HM, hgh⟩
  ·obtain ⟨wo, rfl⟩ : ∃ wo : World, wo = wr := ⟨_, rfl⟩
   obtain ⟨go, rfl⟩ : ∃ go, go = gk := ⟨_, rfl⟩
   obtain ⟨its, ps, e1, hri, n1, n6, hps, hfound, hdown⟩ := HA.out.step HR.out
   have hSo : Hid (Sto wo m F) := HS.out.below HB.out
   obtain ⟨v, u, hN, -, -⟩ := hSo.out.at e1
   have hN : NdX wo p its ps v u := hN
   obtain ⟨q, cq, rfl, hq1, hq2⟩ := ybs hN.r0 (by omega)
   have f0 := hN.c0
   have hpl := hN.lt
   have hpW : p < W.heap.size := HS.out.lt p (HS.out.mem e1)
   have hql : q < wo.heap.size := (hN.r0.lt q rfl).2
   have HROW : Hid (Row wo (.slice (some ⟨q, 0, none⟩) its.length cq) its) := hN.r0
   have CDN : Hid (∀ V j, Below W.heap.size W V → (ps = [] → Calls Tryz.prog 192 #[.pointer (some ⟨p, 0, none⟩), .int .i64 (j : Nat)] V fun e w => e = .returned (.pointer none) ∧ V = w) ∧
     (∀ q, ps[j]? = some q → Calls Tryz.prog 192 #[.pointer (some ⟨p, 0, none⟩), .int .i64 (j : Nat)] V fun e w => e = .returned (.pointer (some ⟨q, 0, none⟩)) ∧ V = w)) := fun V j hV => yei V (HS.out.below hV) e1 (by rcases hps with ⟨_, z⟩ | z; rw [z]; simp; omega)
   have HPS := Lib.hid hps
   have HF := Lib.hid hfound
   have HDN := Lib.hid hdown
   have HRI := Lib.hid hri
   obtain ⟨nn, hn⟩ : ∃ nn, its.length = nn := ⟨_, rfl⟩
   have HN := Lib.hid hn
   have HE1 := Lib.hid e1
   rw [hn] at f0 n6 hq1
   clear hN hq2 hps hfound hdown hri hn n1 e1
   go_wp2_with fail
   go_loopg [6, 7, 24] (nn + 1) (fun gi s6 s7 s24 wy => ∃ i, i + gi = nn + 1 ∧ i ≤ nn ∧ s6 = .slice A steps.length c ∧ s7 = .pointer (some ⟨p, 0, none⟩) ∧ s24 = .int .i64 (i : Nat) ∧ Hid (ya7 (its.take i) k) ∧ Hid (WRow wy W.heap.size (.slice A steps.length c) steps) ∧ Hid (Below wo.heap.size wo wy))
   case atStart => exact ⟨0, by omega, by omega, rfl, rfl, rfl, (fun x hx => by simp at hx), HO.out, Below.refl _ _⟩
   case round =>
    obtain ⟨i, hig, hi, rfl, rfl, rfl, HU, HO2, HBy⟩ := hrel
    have hsz := HBy.out.size
    by_cases hlt : i < nn
    ·have hlt' : i < its.length := by rw [HN.out]; exact hlt
     have ck := (HBy.out.cell (p := ⟨q, i * 2, none⟩) hql).trans ((HROW.out.cellAt (i * 2) (by omega)).trans (ycc its i hlt'))
     have cv := (HBy.out.cell (p := ⟨q, i * 2 + 1, none⟩) hql).trans ((HROW.out.cellAt (i * 2 + 1) (by omega)).trans (yci its i hlt'))
     have HX : Hid (its[i]? = some its[i]) := List.getElem?_eq_getElem hlt'
     have i1 : (i : Int) < (nn : Int) := by omega
     have hqr : q < wr.heap.size := by omega
     have hpr : p < wr.heap.size := by omega
     have fp := (HBy.out.cell (p := ⟨p, 0, none⟩) hpl).trans f0
     have HBW : Hid (Below W.heap.size W wr) := HB.out.trans (HBy.out.mono HB.out.size)
     have HI := Lib.hid hi
     have HLT := Lib.hid hlt'
     generalize its[i] = x at *
     clear hi hlt hlt'
     obtain ⟨xk, xv⟩ := x
     have LC := Lib.hid (fun W1 => yfi xk k W1)
     cases hx : Op.bytesLess xk.toList k.toList
     ·rw [hx] at LC
      have HXL : Hid (yad xk k = false) := hx
      clear hx
      cases hb : (xk.toList == k.toList)
      ·
       have hk : Over (its.drop i) k := by
        have h1 : yad k xk = true := by
         rcases yjc (a := xk) (b := k) (fun e => by rw [e] at hb; simp at hb) with z | z
         ·rw [HXL.out] at z; cases z
         ·exact z
        have h2 := yil HX.out
        have h3 := HRI.out
        rw [h2] at h3
        obtain ⟨_, h4, _⟩ := ycj.1 h3
        have h5 : its.drop i = (xk, xv) :: its.drop (i + 1) := by
         obtain ⟨hi9, he⟩ := List.getElem?_eq_some_iff.1 HX.out
         rw [← he]; exact List.drop_eq_getElem_cons hi9
        rw [h5]
        intro y hy
        rcases List.mem_cons.1 hy with rfl | hy
        ·exact h1
        ·exact ydr h1 ((ycq.1 h4).1 y hy)
       have HK := Lib.hid hk
       clear hk
       rcases HPS.out with ⟨hz, hp⟩ | hp
       ·have CD2 : Hid (∀ V, Below W.heap.size W V → Calls Tryz.prog 192 #[.pointer (some ⟨p, 0, none⟩), .int .i64 (i : Nat)] V fun e w => e = .returned (.pointer none) ∧ V = w) := fun V hV => (CDN.out V i hV).1 hp
        have HMS := Lib.hid ((HDN.out i (by have := HLT.out; omega) HU.out HK.out).1 hp)
        clear hp hz
        go_wp2_with (first
         | (go_at_call 142; ((with_reducible refine (LC.out _).mono ?_); rintro e w3 ⟨rfl, rfl⟩))
         | (at_builtin; go_must (refine yc4 rfl (.tmp 33) (.tmp 37) 227 rfl W.heap.size 232 i0 (.agg #[.pointer none, .int .i64 0]) 2 16 Tryz.underlying227 hi0 hz0 hs0 hb0 rfl (by decide) (.slice A steps.length c) steps.length (ya1 steps) rfl ((HO2.out.alloc _).alloc _) (.slice (some ⟨wr.heap.size + 1, 0, none⟩) 1 1) 1 (ya1 [(p, i)]) rfl (ye7 _ _ p _ i rfl (heap_alloc2_new _ _ _)) (ye4 _) (by unfold maxLen; omega) (by omega) (by have := HBW.out.size; simp; omega) ?_); intro A2 c2 w4 ho4 hg4 _; have HO4 := Lib.hid (ye5 HO2.out ho4 rfl); have HB4 : Hid (Below W.heap.size W w4) := own_below ((HO2.out.alloc _).alloc _) ((HBW.out.alloc (by have := HBW.out.size; omega) _).alloc (by have := HBW.out.size; simp; omega) _) (by have := HBW.out.size; simp; omega) hg4; have bx4 := hg4.cell (a := ⟨wr.heap.size, 0, none⟩) (v := .string xk) (by go_simp) (fun e => Nat.lt_irrefl _ (HO2.out.lt _ e.symm).2); clear ho4 hg4)
         | (go_at_call 192; ((with_reducible refine (CD2.out _ HB4.out).mono ?_); rintro e w5 ⟨rfl, rfl⟩)))
        go_roundg (go - 1)
        case measure => omega
        case rel => exact ⟨steps ++ [(p, i)], A2, c2, by rw [List.length_append]; rfl, by simp; omega, ye6 HO4.out, HB4.out, .inr ⟨rfl, HMS.out, by omega⟩⟩
       ·obtain ⟨q', hq'⟩ : ∃ q', ps[i]? = some q' := ⟨ps[i]'(by have := HLT.out; omega), List.getElem?_eq_getElem _⟩
        have CD2 : Hid (∀ V, Below W.heap.size W V → Calls Tryz.prog 192 #[.pointer (some ⟨p, 0, none⟩), .int .i64 (i : Nat)] V fun e w => e = .returned (.pointer (some ⟨q', 0, none⟩)) ∧ V = w) := fun V hV => (CDN.out V i hV).2 q' hq'
        obtain ⟨hh, hat⟩ := (HDN.out i (by have := HLT.out; omega) HU.out HK.out).2 q' hq'
        have HAT := Lib.hid hat
        clear hp hq' hat
        go_wp2_with (first
         | (go_at_call 142; ((with_reducible refine (LC.out _).mono ?_); rintro e w3 ⟨rfl, rfl⟩))
         | (at_builtin; go_must (refine yc4 rfl (.tmp 33) (.tmp 37) 227 rfl W.heap.size 232 i0 (.agg #[.pointer none, .int .i64 0]) 2 16 Tryz.underlying227 hi0 hz0 hs0 hb0 rfl (by decide) (.slice A steps.length c) steps.length (ya1 steps) rfl ((HO2.out.alloc _).alloc _) (.slice (some ⟨wr.heap.size + 1, 0, none⟩) 1 1) 1 (ya1 [(p, i)]) rfl (ye7 _ _ p _ i rfl (heap_alloc2_new _ _ _)) (ye4 _) (by unfold maxLen; omega) (by omega) (by have := HBW.out.size; simp; omega) ?_); intro A2 c2 w4 ho4 hg4 _; have HO4 := Lib.hid (ye5 HO2.out ho4 rfl); have HB4 : Hid (Below W.heap.size W w4) := own_below ((HO2.out.alloc _).alloc _) ((HBW.out.alloc (by have := HBW.out.size; omega) _).alloc (by have := HBW.out.size; simp; omega) _) (by have := HBW.out.size; simp; omega) hg4; have bx4 := hg4.cell (a := ⟨wr.heap.size, 0, none⟩) (v := .string xk) (by go_simp) (fun e => Nat.lt_irrefl _ (HO2.out.lt _ e.symm).2); clear ho4 hg4)
         | (go_at_call 192; ((with_reducible refine (CD2.out _ HB4.out).mono ?_); rintro e w5 ⟨rfl, rfl⟩)))
        go_roundg (go - 1)
        case measure => omega
        case rel => exact ⟨steps ++ [(p, i)], A2, c2, by rw [List.length_append]; rfl, by simp; omega, ye6 HO4.out, HB4.out, .inl ⟨q', h - 1, rfl, HAT.out, by simp; omega, by omega⟩⟩
      ·have hkey : xk = k := yhm (by simpa using hb)
       have HFD := Lib.hid (HF.out i (xk, xv) HX.out HU.out hkey)
       clear hkey
       go_wp2_with (first
        | (go_at_call 142; ((with_reducible refine (LC.out _).mono ?_); rintro e w3 ⟨rfl, rfl⟩))
        | (at_builtin; go_must (refine yc4 rfl (.tmp 33) (.tmp 37) 227 rfl W.heap.size 232 i0 (.agg #[.pointer none, .int .i64 0]) 2 16 Tryz.underlying227 hi0 hz0 hs0 hb0 rfl (by decide) (.slice A steps.length c) steps.length (ya1 steps) rfl ((HO2.out.alloc _).alloc _) (.slice (some ⟨wr.heap.size + 1, 0, none⟩) 1 1) 1 (ya1 [(p, i)]) rfl (ye7 _ _ p _ i rfl (heap_alloc2_new _ _ _)) (ye4 _) (by unfold maxLen; omega) (by omega) (by have := HBW.out.size; simp; omega) ?_); intro A2 c2 w4 ho4 hg4 _; have HO4 := Lib.hid (ye5 HO2.out ho4 rfl); have HB4 : Hid (Below W.heap.size W w4) := own_below ((HO2.out.alloc _).alloc _) ((HBW.out.alloc (by have := HBW.out.size; omega) _).alloc (by have := HBW.out.size; simp; omega) _) (by have := HBW.out.size; simp; omega) hg4; have bx4 := hg4.cell (a := ⟨wr.heap.size, 0, none⟩) (v := .string xk) (by go_simp) (fun e => Nat.lt_irrefl _ (HO2.out.lt _ e.symm).2); clear ho4 hg4))
       rw [Exit.noGoto_ret]
       go_ret2
       exact ⟨steps ++ [(p, i)], A2, c2, true, by rw [List.length_append]; rfl, ye6 HO4.out, HB4.out, .inl ⟨rfl, steps, p, i, xv, rfl, HFD.out⟩⟩
     ·rw [hx] at LC
      have HXL : Hid (yad xk k = true) := hx
      clear hx
      go_wp2_with (go_at_call 142; ((with_reducible refine (LC.out _).mono ?_); rintro e w3 ⟨rfl, rfl⟩))
      go_roundg (gk - 1)
      case measure => omega
      case rel => exact ⟨i + 1, by omega, by have := HLT.out; have := HN.out; omega, rfl, rfl, by go_num, by rw [List.take_add_one, HX.out]; exact ya7.append HU.out (fun y hy => by simp at hy; rw [hy]; exact HXL.out), HO2.out.alloc _, HBy.out.alloc (by omega) _⟩
    ·obtain rfl : i = nn := by omega
     have hpr : p < wr.heap.size := by omega
     have fp := (HBy.out.cell (p := ⟨p, 0, none⟩) hpl).trans f0
     have HBW : Hid (Below W.heap.size W wr) := HB.out.trans (HBy.out.mono HB.out.size)
     have HK : Hid (Over (its.drop i) k) := by
      have e : its.drop i = [] := List.drop_of_length_le (by rw [HN.out]; omega)
      show Over _ k
      rw [e]; exact fun y hy => by cases hy
     have hli : i ≤ its.length := by rw [HN.out]; omega
     have HLI := Lib.hid hli
     clear hli hi hlt
     rcases HPS.out with ⟨hz, hp⟩ | hp
     ·have CD2 : Hid (∀ V, Below W.heap.size W V → Calls Tryz.prog 192 #[.pointer (some ⟨p, 0, none⟩), .int .i64 (i : Nat)] V fun e w => e = .returned (.pointer none) ∧ V = w) := fun V hV => (CDN.out V i hV).1 hp
      have HMS := Lib.hid ((HDN.out i HLI.out HU.out HK.out).1 hp)
      clear hp hz
      go_wp2_with (first
       | (at_builtin; go_must (refine yc4 rfl (.tmp 48) (.tmp 56) 227 rfl W.heap.size 232 i0 (.agg #[.pointer none, .int .i64 0]) 2 16 Tryz.underlying227 hi0 hz0 hs0 hb0 rfl (by decide) (.slice A steps.length c) steps.length (ya1 steps) rfl (HO2.out.alloc _) (.slice (some ⟨wr.heap.size, 0, none⟩) 1 1) 1 (ya1 [(p, i)]) rfl (ye7 _ _ p _ i rfl (heap_alloc_new _ _)) (ye4 _) (by unfold maxLen; omega) (by omega) (by have := HBW.out.size; simp; omega) ?_); intro A2 c2 w4 ho4 hg4 _; have HO4 := Lib.hid (ye5 HO2.out ho4 rfl); have HB4 : Hid (Below W.heap.size W w4) := own_below (HO2.out.alloc _) (HBW.out.alloc (by have := HBW.out.size; omega) _) (by have := HBW.out.size; simp; omega) hg4; have fp4 := hg4.cell (a := ⟨p, 0, none⟩) (v := .slice (some ⟨q, 0, none⟩) i cq) (by go_simp) (fun e => absurd (HO2.out.lt _ e.symm).1 (Nat.not_le.2 hpW)); clear ho4 hg4)
       | (go_at_call 192; ((with_reducible refine (CD2.out _ HB4.out).mono ?_); rintro e w5 ⟨rfl, rfl⟩)))
      go_roundg (go - 1)
      case measure => omega
      case rel => exact ⟨steps ++ [(p, i)], A2, c2, by rw [List.length_append]; rfl, by simp; omega, ye6 HO4.out, HB4.out, .inr ⟨rfl, HMS.out, by omega⟩⟩
     ·obtain ⟨q', hq'⟩ : ∃ q', ps[i]? = some q' := ⟨ps[i]'(by have := HN.out; omega), List.getElem?_eq_getElem _⟩
      have CD2 : Hid (∀ V, Below W.heap.size W V → Calls Tryz.prog 192 #[.pointer (some ⟨p, 0, none⟩), .int .i64 (i : Nat)] V fun e w => e = .returned (.pointer (some ⟨q', 0, none⟩)) ∧ V = w) := fun V hV => (CDN.out V i hV).2 q' hq'
      obtain ⟨hh, hat⟩ := (HDN.out i HLI.out HU.out HK.out).2 q' hq'
      have HAT := Lib.hid hat
      clear hp hq' hat
      go_wp2_with (first
       | (at_builtin; go_must (refine yc4 rfl (.tmp 48) (.tmp 56) 227 rfl W.heap.size 232 i0 (.agg #[.pointer none, .int .i64 0]) 2 16 Tryz.underlying227 hi0 hz0 hs0 hb0 rfl (by decide) (.slice A steps.length c) steps.length (ya1 steps) rfl (HO2.out.alloc _) (.slice (some ⟨wr.heap.size, 0, none⟩) 1 1) 1 (ya1 [(p, i)]) rfl (ye7 _ _ p _ i rfl (heap_alloc_new _ _)) (ye4 _) (by unfold maxLen; omega) (by omega) (by have := HBW.out.size; simp; omega) ?_); intro A2 c2 w4 ho4 hg4 _; have HO4 := Lib.hid (ye5 HO2.out ho4 rfl); have HB4 : Hid (Below W.heap.size W w4) := own_below (HO2.out.alloc _) (HBW.out.alloc (by have := HBW.out.size; omega) _) (by have := HBW.out.size; simp; omega) hg4; have fp4 := hg4.cell (a := ⟨p, 0, none⟩) (v := .slice (some ⟨q, 0, none⟩) i cq) (by go_simp) (fun e => absurd (HO2.out.lt _ e.symm).1 (Nat.not_le.2 hpW)); clear ho4 hg4)
       | (go_at_call 192; ((with_reducible refine (CD2.out _ HB4.out).mono ?_); rintro e w5 ⟨rfl, rfl⟩)))
      go_roundg (go - 1)
      case measure => omega
      case rel => exact ⟨steps ++ [(p, i)], A2, c2, by rw [List.length_append]; rfl, by simp; omega, ye6 HO4.out, HB4.out, .inl ⟨q', h - 1, rfl, HAT.out, by simp; omega, by omega⟩⟩
  ·go_wp2_with fail
   rw [Exit.noGoto_ret]
   go_ret2
   exact ⟨steps, A, c, false, rfl, HO.out, HB.out, .inr ⟨rfl, HM.out⟩⟩
end Go.Proofs.YtnjodhglbapnlaaGreat
