/-
  Points copied by append onto nothing; rows that a book of points keeps, at another world.
-/
import Derived.Test.YtfpoapmbpbkibaaPbKeep
import Derived.Test.YtfpoapmbpbkibaaPbLent
namespace Go.Proofs.Ytfpoapmbpbkibaa
open Go.RowKit Pb

theorem step_append_ran {P : Program} {ops : Array Oper} {o : Oper} {a : Act} {w : World} {K : Act → World → Prop} {Q : Exit → Act → World → Prop} {E : Prop} (hg : o.guard = none) (s x : Operand) (t : TypeId)
    (ho : o.op = .call { callee := .builtin .append, args := #[s, x], argTypes := #[t, t] }) (v y : Value) (hs : a.eval s = v) (hx : a.eval x = y) {v' : Value} {w' : World}
    (hr : (Builtin.append_ #[t, t] o.type #[v, y]).run P w = .ok v' w') (h : K (a.put o.dst v') w') : if Region.wanted o (yielded ops a.tmps) = true then Oper.wp P o a w K Q else E := by
  rw [if_pos (by simp [Region.wanted, hg])]
  exact Lib.wp_append_run w s x t t ho v y hs hx v' w' hr h
/-- a copy: append onto nothing -/
theorem run_append_pts (A : Option Addr) (c n : Nat) (ts : List Int) (w : World) (h : PtAt w A ts) (hn : ts.length = n) (hl : n ≤ 100000) :
    ∃ A4 c4 w4, (Builtin.append_ #[23, 23] 23 #[.slice none 0 0, .slice A n c]).run Try.prog w = .ok (.slice A4 n c4) w4 ∧ w4.ownsRow w.heap.size 22 1 (.slice A4 n c4) n (ptC ts) ∧ Below w.heap.size w w4 := by
  obtain ⟨i0, z0, hi, hz, hsL, hbL, hzc⟩ := infoP_
  rcases Option.eq_none_or_eq_some A with rfl | ⟨ad, rfl⟩
  · have hl0 : ts = [] := by
      cases ts with
      | nil => rfl
      | cons x l =>
        obtain ⟨b, off, h⟩ := h
        have := (h 0 (by simp)).1
        cases this
    subst hl0
    obtain rfl : n = 0 := hn.symm
    exact ⟨none, 0, w, run_append_nothing w 23 23 22 i0 Try.underlying23 hi c, World.ownsRow_nil _ _ _ _, Below.refl _ _⟩
  · subst hn
    obtain ⟨v', w', hr, h2, h3, h4⟩ := run_append_any (P := Try.prog) w w.heap.size 23 23 22 i0 z0 1 8 Try.underlying23 hi hz hsL hbL hzc (by decide) (.slice none 0 0) 0 [] (World.ownsRow_nil _ _ _ _) _ ts.length (ptC ts) (PtAt.from_ (c := c) h) (pt_one _) (by unfold maxLen; omega) (by omega) (Nat.le_refl _)
    simp only [Nat.zero_add, List.nil_append] at h2
    obtain ⟨A4, c4, rfl⟩ := own_slice h2
    exact ⟨A4, c4, w', hr, h2, (Below.refl w.heap.size w).grown h3 (Nat.le_refl _) (fun z hz => by cases hz)⟩
theorem pt_old {w w1 : World} {x : Int} (hb : Below (w.alloc (.cells #[.int .u64 x] 22)).heap.size (w.alloc (.cells #[.int .u64 x] 22)) w1) :
    ∀ j u, (ptC [x])[j]? = some u → w1.cell? ((⟨w.heap.size, 0, none⟩ : Addr).add j) = some u := by
  intro j u hj
  refine Eq.trans ?_ (pt_new w x j u hj)
  have h0 : j = 0 := by have := (List.getElem?_eq_some_iff.1 hj).1; simp at this; omega
  subst h0
  rw [Go.WideShapes.add_plain]
  exact hb.cell (by simp)
theorem kb_pts {w0 w : World} {gk : Nat} {es ps : List (Value × List Int)} {P : List Nat} (h : KB w0 w gk es ps P) {A : Option Addr} {c n : Nat} {l : List Int} (hn : l.length = n) (hx : (.slice A n c, l) ∈ es ++ ps) : PtAt w A l := by
  have z : Pb.Row w (.slice A n c) l := h.row hx
  unfold Pb.Row at z
  rw [hn] at z
  exact PtAt.own z hn
theorem pt_touch {w w0 w1 : World} {G : List Nat} {A : Option Addr} {l : List Int} (h : PtAt w A l) (hb : Below w.heap.size w w0) (ht : Touch G w0 w1) (hG : ∀ q ∈ G, w.heap.size ≤ q) : PtAt w1 A l :=
  h.below (Touch.acc hb ht hG)
theorem lent_touch {K : Nat} {w w0 w1 : World} {G : List Nat} {A : Option Addr} {c n : Nat} {l : List Int} (h : Lent K w A c n l) (hb : Below w.heap.size w w0) (ht : Touch G w0 w1) (hG : ∀ q ∈ G, w.heap.size ≤ q) : Lent K w1 A c n l :=
  h.below (Touch.acc hb ht hG)
theorem wpList_append_ran {P : Program} {w : World} {ops : Array Oper} {rest : List Oper} {o : Oper} {a : Act} {Q : Exit → Act → World → Prop} (hg : o.guard = none) (s x : Operand) (t tn : TypeId)
    (ho : o.op = .call { callee := .builtin .append, args := #[s, x], argTypes := #[t, tn] }) (vs vx : Value) (hs : a.eval s = vs) (hx : a.eval x = vx)
    {v' : Value} {w' : World} (hr : (Builtin.append_ #[t, tn] o.type #[vs, vx]).run P w = .ok v' w') (h : wpList P ops Q rest (a.put o.dst v') w') : wpList P ops Q (o :: rest) a w :=
  wpList_plain hg fun _ hK => Lib.wp_append_run w s x t tn ho vs vx hs hx v' w' hr (hK _ _ h)
end Go.Proofs.Ytfpoapmbpbkibaa
