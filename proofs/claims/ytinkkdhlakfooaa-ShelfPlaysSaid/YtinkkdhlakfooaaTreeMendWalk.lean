/-
  A node's mend, as what it leaves of the tree.
-/
import Derived.Test.YtinkkdhlakfooaaNodeMend
import Derived.Test.YtinkkdhlakfooaaTree
namespace Go.Proofs.Ytinkkdhlakfooaa
open Go.RowKit

set_option maxRecDepth 100000 in
set_option maxHeartbeats 1000000 in
theorem mend_rich (g c j : Nat) {its ic : List Item} {ps pc : List Nat} {m : NMap} {F : List Nat} (W : World) (h : Sto W m F) (hg : m g = some ⟨its, ps⟩) (hc : m c = some ⟨ic, pc⟩) (hpc : ps[j]? = some c) (hic : 3 ≤ ic.length) (l2 : ps.length ≤ 300) :
    Calls Try.prog 74 #[ptr g, .int .i64 (j : Nat)] W fun e w => e = .returned (.tuple #[]) ∧ W = w := by
  obtain ⟨n, hl⟩ : ∃ n, ic.length = n := ⟨_, rfl⟩
  obtain ⟨n2, hl2⟩ : ∃ n, ps.length = n := ⟨_, rfl⟩
  obtain ⟨q2, dg, C, dc, g1, cj, c0⟩ := h.child hg hpc hc hl2 hl
  have hj : j < ps.length := (List.getElem?_eq_some_iff.1 hpc).1
  have i1 : (j : Int) < (n2 : Int) := by omega
  have i2 : (3 : Int) ≤ (n : Int) := by omega
  have i3 : (j : Int) ≤ 300 := by omega
  clear h hg hc hpc hic l2 hl hl2 hj
  unfold ptr at *
  go_enter Try.func74, Try.ntmps74
  go_wp2_with fail
  exact bodyPost_ret (results_none rfl _ _ _) rfl ⟨rfl, rfl⟩

theorem mend_two {m : NMap} {F : List Nat} {W : World} {h g j cc : Nat} {xs ys ic : List Item} {pc : List Nat} {x : Item} {ls rs : List Ch} {ca cb : Ch} (hS : Sto W m F)
    (hm : m g = some ⟨xs ++ x :: ys, ls.map Ch.g ++ ca.g :: cb.g :: rs.map Ch.g⟩) (hl : ls.length = xs.length) (hr : rs.length = ys.length) (hd : ∀ d ∈ ls ++ rs, Sub m h 3 6 d)
    (sa : Sub m h 2 6 ca) (sb : Sub m h 2 6 cb) (h3 : Sub m h 3 6 ca ∨ Sub m h 3 6 cb) (hnd : (idsN g (ls ++ ca :: cb :: rs)).Nodup) (h6 : (xs ++ x :: ys).length ≤ 6)
    (hj : (j = xs.length + 1 ∧ cc = cb.g) ∨ (j = 0 ∧ xs = [] ∧ cc = ca.g)) (hcc : m cc = some ⟨ic, pc⟩) (hic : ic.length < 3) :
    Calls Try.prog 74 #[ptr g, .int .i64 (j : Nat)] W fun e w => e = .returned (.tuple #[]) ∧ ∃ m' F', Sto w m' F' ∧ Stp W F w F' ∧ (∀ z, z ≠ g → z ≠ ca.g → z < W.heap.size → m' z = m z) ∧
      ∃ c'', c''.g = g ∧ Sub m' (h + 1) ((xs ++ x :: ys).length - 1) 6 c'' ∧ c''.l = preW ls xs ++ (ca.l ++ x :: (cb.l ++ postW ys rs)) ∧ c''.I.Nodup ∧ ∀ z ∈ c''.I, z ∈ idsN g (ls ++ ca :: cb :: rs) ∨ W.heap.size ≤ z := by
  have sa0 := sa
  have sb0 := sb
  obtain ⟨ia, ka, a1, a2, a3, a4, a5, a6⟩ := sa
  obtain ⟨ib, kb, b1, b2, b3, b4, b5, b6⟩ := sb
  have hsum : 3 ≤ ia.length ∨ 3 ≤ ib.length := by
    rcases h3 with ⟨i', k', e1, e2, _⟩ | ⟨i', k', e1, e2, _⟩
    · rw [a1] at e1; injection e1 with e1; injection e1 with e1 _; subst e1; exact .inl e2
    · rw [b1] at e1; injection e1 with e1; injection e1 with e1 _; subst e1; exact .inr e2
  have hsm : ia.length < 3 ∨ ib.length < 3 := by
    rcases hj with ⟨_, rfl⟩ | ⟨_, _, rfl⟩
    · rw [b1] at hcc; injection hcc with e1; injection e1 with e1 _; subst e1; exact .inr hic
    · rw [a1] at hcc; injection hcc with e1; injection e1 with e1 _; subst e1; exact .inl hic
  have lJ : (ia ++ x :: ib).length = ia.length + ib.length + 1 := by simp; omega
  have hB : ∀ z ∈ idsN g (ls ++ ca :: cb :: rs), z < W.heap.size := by
    intro z hz
    have dom : ∃ nd, m z = some nd := by
      rcases mem_idsN.1 hz with e | ⟨d, hd', hz'⟩
      · exact ⟨_, by rw [e]; exact hm⟩
      · rcases List.mem_append.1 hd' with e | e
        · exact (hd d (by simp [e])).dom z hz'
        · rcases List.mem_cons.1 e with rfl | e
          · exact sa0.dom z hz'
          · rcases List.mem_cons.1 e with rfl | e
            · exact sb0.dom z hz'
            · exact (hd d (by simp [e])).dom z hz'
    obtain ⟨nd, hn⟩ := dom
    exact hS.lt z (hS.mem hn)
  have nd1 := List.nodup_cons.1 hnd
  have hag : ca.g ≠ g := fun e => nd1.1 (List.mem_flatMap.2 ⟨ca, by simp, by rw [← e]; exact sub_mem_g sa0⟩)
  have hab : ca.g ≠ cb.g := fun e => by
    have n2 := nd1.2
    rw [List.flatMap_append, List.flatMap_cons, List.flatMap_cons] at n2
    have n3 := (List.nodup_append.1 (List.nodup_append.1 n2).2.1).2.2 ca.g (sub_mem_g sa0) cb.g (by simp [sub_mem_g sb0])
    exact n3 e
  have hleaf : (ka.map Ch.g ++ kb.map Ch.g) = [] ∨ (ka.map Ch.g ++ kb.map Ch.g).length = (ia ++ x :: ib).length + 1 := by
    rcases (a4.app b4).ps with ⟨_, z⟩ | ⟨_, z⟩
    · left; rw [← List.map_append]; exact z
    · right; rw [← List.map_append, z, lJ]; omega
  have lps : ∀ {k : List Ch} {n : Nat}, Kids m h k n → n ≤ 6 → (k.map Ch.g).length ≤ 300 := fun hk hn => by
    rcases hk.ps with ⟨_, z⟩ | ⟨_, z⟩
    · rw [z]; simp
    · omega
  have hlen : (xs ++ x :: ys).length = xs.length + ys.length + 1 := by simp; omega
  have q0 : (ls.map Ch.g ++ ca.g :: cb.g :: rs.map Ch.g)[xs.length]? = some ca.g := by rw [← hl, List.getElem?_append_right (by simp)]; simp
  have q1 : (ls.map Ch.g ++ ca.g :: cb.g :: rs.map Ch.g)[xs.length + 1]? = some cb.g := by rw [← hl, List.getElem?_append_right (by simp)]; simp
  have q2 : (xs ++ x :: ys)[xs.length]? = some x := by simp
  have qj : (ls.map Ch.g ++ ca.g :: cb.g :: rs.map Ch.g)[j]? = some cc := by
    rcases hj with ⟨rfl, rfl⟩ | ⟨rfl, rfl, rfl⟩
    · exact q1
    · exact q0
  have lp : (ls.map Ch.g ++ ca.g :: cb.g :: rs.map Ch.g).length = xs.length + ys.length + 2 := by simp; omega
  refine (mend_join g ca.g cb.g j xs.length x cc W hS hm a1 b1 hcc hab hag (by omega) (by omega) (by rcases hj with ⟨rfl, _⟩ | ⟨rfl, rfl, _⟩ <;> omega) (by rcases hj with ⟨rfl, _⟩ | ⟨rfl, rfl, _⟩; exact .inl rfl; exact .inr ⟨rfl, rfl⟩) q0 q1 qj q2 hic (by omega) (by omega) (by omega) (lps a4 a3) (by omega) (lps b4 b3) hleaf).mono ?_
  rintro e w ⟨rfl, m', F', c1, c2, c3⟩
  obtain ⟨r1, c'', r2, r3, r4, r5, r6⟩ := mend_core (m := m) (m' := m') (B := W.heap.size) hm hl hr hd a4 a5 a6 b4 b5 b6 hnd hB h6 (by omega) (by omega) c3
  exact ⟨rfl, m', F', c1, c2, r1, c'', r2, r3, r4, r5, r6⟩

/-- what mend leaves of a tree -/
def MendTree (W : World) (F : List Nat) (m : NMap) (h : Nat) (f : Fr) (c : Ch) (e : Ending) (w : World) : Prop :=
  e = .returned (.tuple #[]) ∧ ∃ m' F', Sto w m' F' ∧ Stp W F w F' ∧ (∀ z, z ∉ c.I → z ∉ idsF f → z < W.heap.size → m' z = m z) ∧
    ∃ c'', c''.g = f.g ∧ Sub m' (h + 1) ((f.xs ++ f.ys).length - 1) 6 c'' ∧ c''.l = (putIn f c).l ∧ c''.I.Nodup ∧ ∀ z ∈ c''.I, z ∈ c.I ∨ z ∈ idsF f ∨ W.heap.size ≤ z
theorem mem_two {f : Fr} {c : Ch} {z : Nat} {cs : List Ch} (hcs : cs = f.ls ++ c :: f.rs) (hz : z ∈ idsN f.g cs) : z ∈ c.I ∨ z ∈ idsF f := by
  subst hcs
  rcases mem_idsN.1 hz with e | ⟨d, hd, hz'⟩
  · exact .inr (mem_idsF.2 (.inl e))
  · rcases List.mem_append.1 hd with e | e
    · exact .inr (mem_idsF.2 (.inr ⟨d, by simp [e], hz'⟩))
    · rcases List.mem_cons.1 e with rfl | e
      · exact .inl hz'
      · exact .inr (mem_idsF.2 (.inr ⟨d, by simp [e], hz'⟩))
theorem mend_tree (W : World) {m : NMap} {F : List Nat} {h : Nat} {f : Fr} {c : Ch} (hS : Sto W m F) (k : Frm m h c.g f) (s : Sub m h 2 6 c) (hnd : (c.I ++ idsF f).Nodup) (h1 : 1 ≤ (f.xs ++ f.ys).length) (h6 : (f.xs ++ f.ys).length ≤ 6) :
    Calls Try.prog 74 #[ptr f.g, .int .i64 (f.xs.length : Nat)] W (MendTree W F m h f c) := by
  have s0 := s
  have ndp : (idsN f.g (f.ls ++ c :: f.rs)).Nodup := ((putIn_perm f c).nodup_iff).2 hnd
  obtain ⟨ic, kc, c1, c2, c3, c4, c5, c6⟩ := s
  by_cases h3 : 3 ≤ ic.length
  · have q : (f.ls.map Ch.g ++ c.g :: f.rs.map Ch.g)[f.xs.length]? = some c.g := by rw [← k.left, List.getElem?_append_right (by simp)]; simp
    have e1 := k.left
    have e2 := k.right
    have e3 : (f.xs ++ f.ys).length = f.xs.length + f.ys.length := List.length_append
    refine (mend_rich f.g c.g f.xs.length W hS k.at_ c1 q h3 (by simp; omega)).mono ?_
    rintro e w ⟨rfl, rfl⟩
    refine ⟨rfl, m, F, hS, Stp.refl _ _, fun _ _ _ _ => rfl, putIn f c, rfl, k.putIn ⟨ic, kc, c1, h3, c3, c4, c5, c6⟩ (by omega) h6, rfl, ndp, fun z hz => ?_⟩
    rcases mem_two rfl hz with e | e
    · exact .inl e
    · exact .inr (.inl e)
  · obtain ⟨g, xs, ys, ls, rs⟩ := f
    have e1 : ls.length = xs.length := k.left
    have e2 : rs.length = ys.length := k.right
    have e3 : m g = some ⟨xs ++ ys, ls.map Ch.g ++ c.g :: rs.map Ch.g⟩ := k.at_
    have e4 : ∀ d ∈ ls ++ rs, Sub m h 3 6 d := k.kids
    have h1 : 1 ≤ (xs ++ ys).length := h1
    have h6 : (xs ++ ys).length ≤ 6 := h6
    rcases List.eq_nil_or_concat xs with rfl | ⟨xs0, x, rfl⟩
    · obtain rfl : ls = [] := List.eq_nil_of_length_eq_zero (by simpa using e1)
      cases ys with
      | nil => simp at h1
      | cons x ys =>
        cases rs with
        | nil => simp at e2
        | cons cb rs =>
          have sb : Sub m h 3 6 cb := e4 cb (by simp)
          refine (mend_two (j := 0) (xs := []) (ls := []) (x := x) (ca := c) (cb := cb) hS e3 rfl (by simpa using e2) (fun d hd => e4 d (by simp at hd ⊢; exact .inr hd)) s0 (sb.mono (by omega) (Nat.le_refl _)) (.inr sb) ndp h6 (.inr ⟨rfl, rfl, rfl⟩) c1 (by omega)).mono ?_
          rintro e w ⟨rfl, m', F', d1, d2, d3, c'', d4, d5, d6, d7, d8⟩
          refine ⟨rfl, m', F', d1, d2, fun z z1 z2 z3 => d3 z (fun e => z2 (mem_idsF.2 (.inl e))) (fun e => z1 (by rw [e]; exact sub_mem_g s0)) z3, c'', d4, d5, ?_, d7, fun z hz => ?_⟩
          · rw [d6]; simp [putIn, preW, postW]
          · rcases d8 z hz with z1 | z1
            · rcases mem_two (f := ⟨g, [], x :: ys, [], cb :: rs⟩) rfl z1 with e | e
              · exact .inl e
              · exact .inr (.inl e)
            · exact .inr (.inr z1)
    · rcases List.eq_nil_or_concat ls with rfl | ⟨ls0, ca, rfl⟩
      · simp at e1
      · have el : ls0.length = xs0.length := by simpa using e1
        have sa : Sub m h 3 6 ca := e4 ca (by simp)
        have e3' : m g = some ⟨xs0 ++ x :: ys, ls0.map Ch.g ++ ca.g :: c.g :: rs.map Ch.g⟩ := by rw [e3]; simp
        have ndp' : (idsN g (ls0 ++ ca :: c :: rs)).Nodup := by
          have z : ls0 ++ ca :: c :: rs = (ls0 ++ [ca]) ++ c :: rs := by simp
          rw [z]; simpa using ndp
        have jl : (xs0.concat x).length = xs0.length + 1 := by simp
        show Calls Try.prog _ #[ptr g, .int .i64 ((xs0.concat x).length : Nat)] W _
        rw [jl]
        refine (mend_two (j := xs0.length + 1) (xs := xs0) (ls := ls0) (x := x) (ca := ca) (cb := c) hS e3' el e2 (fun d hd => e4 d (by
          rcases List.mem_append.1 hd with z | z
          · simp [z]
          · simp [z])) (sa.mono (by omega) (Nat.le_refl _)) s0 (.inl sa) ndp' (by simpa using h6) (.inl ⟨rfl, rfl⟩) c1 (by omega)).mono ?_
        rintro e w ⟨rfl, m', F', d1, d2, d3, c'', d4, d5, d6, d7, d8⟩
        have hf : idsF ⟨g, xs0.concat x, ys, ls0.concat ca, rs⟩ = g :: ((ls0 ++ [ca]) ++ rs).flatMap Ch.I := by simp [idsF]
        refine ⟨rfl, m', F', d1, d2, fun z z1 z2 z3 => d3 z (fun e => z2 (mem_idsF.2 (.inl e))) (fun e => z2 (mem_idsF.2 (.inr ⟨ca, by simp, by rw [e]; exact sub_mem_g sa⟩))) z3, c'', d4, ?_, ?_, d7, fun z hz => ?_⟩
        · have z : (xs0.concat x ++ ys).length = (xs0 ++ x :: ys).length := by simp
          show Sub m' (h + 1) ((xs0.concat x ++ ys).length - 1) 6 c''
          rw [z]; exact d5
        · rw [d6]
          have hp : ∀ (l : List Ch) (y : List Item), l.length = y.length → preW (l ++ [ca]) (y ++ [x]) = preW l y ++ (ca.l ++ [x]) := by
            intro l
            induction l with
            | nil => intro y hy; cases y with
              | nil => simp [preW]
              | cons _ _ => simp at hy
            | cons a l ih => intro y hy; cases y with
              | nil => simp at hy
              | cons b y => simp only [List.cons_append, preW]; rw [ih y (by simpa using hy)]; simp
          simp [putIn, hp ls0 xs0 el]
        · rcases d8 z hz with z1 | z1
          · have z2 : z ∈ idsN g ((ls0.concat ca) ++ c :: rs) := by simpa using z1
            rcases mem_two (f := ⟨g, xs0.concat x, ys, ls0.concat ca, rs⟩) rfl z2 with e | e
            · exact .inl e
            · exact .inr (.inl e)
          · exact .inr (.inr z1)
end Go.Proofs.Ytinkkdhlakfooaa
