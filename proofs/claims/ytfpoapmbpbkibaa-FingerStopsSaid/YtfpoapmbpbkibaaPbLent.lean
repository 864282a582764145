/-
  Lists of points that the call does not own: copied; with a mark behind (LentPoints), and whether it is as it was (StaysPoints). (Out of LetLent by tools/genLent10.py.)
-/
import Derived.Test.YtfpoapmbpbkibaaPbBook
import Derived.Test.YtfpoapmbpbkibaaAppendAny
import Derived.Test.YtfpoapmbpbkibaaLists
namespace Go.Proofs.Ytfpoapmbpbkibaa.Pb
open Go.RowKit Go.Proofs.Ytfpoapmbpbkibaa

theorem run_append_nothing {P : Program} (w : World) (t ty e : TypeId) (i : TypeInfo) (ht : P.underlying t = some (.slice e)) (hi : P.info? e = some i) (c : Nat) :
    (Builtin.append_ #[t, t] ty #[.slice none 0 0, .slice none 0 c]).run P w = .ok (.slice none 0 0) w := by
  simp [Builtin.append_, run_underlying ht, sizeOf, typeInfo, hi, Builtin.lenOf, Builtin.firstCells]
theorem wpList_append_ran {P : Program} {w : World} {ops : Array Oper} {rest : List Oper} {o : Oper} {a : Act} {Q : Exit → Act → World → Prop} (hgd : o.guard = none) (s x : Operand) (t : TypeId)
    (ho : o.op = .call { callee := .builtin .append, args := #[s, x], argTypes := #[t, t] }) (v y : Value) (hs : a.eval s = v) (hx : a.eval x = y) {v' : Value} {w' : World}
    (hr : (Builtin.append_ #[t, t] o.type #[v, y]).run P w = .ok v' w') (h : wpList P ops Q rest (a.put o.dst v') w') : wpList P ops Q (o :: rest) a w :=
  wpList_plain hgd fun _ hK => Lib.wp_append_run w s x t t ho v y hs hx v' w' hr (hK _ _ h)
theorem own_caps {w : World} {base n c : Nat} {A : Option Addr} {l : List Int} (h : w.ownsRow base 22 1 (.slice A n c) n (ptC l)) : n ≤ c ∧ c ≤ maxLen := by
  rcases h.2 with ⟨h0, h1⟩ | ⟨g, cap, cur, h0, hg, hh, h1, h2, _⟩
  · injection h0 with _ e1 e2
    subst e1 e2
    exact ⟨Nat.le_refl _, by unfold maxLen; omega⟩
  · injection h0 with _ _ e2
    subst e2
    exact ⟨h1, h2⟩
theorem own_itsome {w : World} {base c n : Nat} {A : Option Addr} {xs : List Value} (h : w.ownsRow base 22 1 (.slice A (n + 1) c) (n + 1) xs) : ∃ q, A = some ⟨q, 0, none⟩ := by
  rcases h.2 with ⟨h0, h1⟩ | ⟨g, cap, cur, h0, hg, hh, _⟩
  · injection h0 with _ e1 _
    cases e1
  · injection h0 with h1 _ _
    exact ⟨g, h1⟩
theorem PtAt.of_ints {W : World} {A : Option Addr} {l : List Int} (h : IntsAt W A .u64 l) : PtAt W A l := by
  obtain ⟨b, off, h⟩ := h
  refine ⟨b, off, fun i hi => ?_⟩
  obtain ⟨h1, h2, h3⟩ := h i hi
  refine ⟨h1, h2, ?_⟩
  rw [h3]
  simp [List.getD_eq_getElem?_getD, hi]
theorem PtAt.from_ {W : World} {ad : Addr} {c : Nat} {l : List Int} (h : PtAt W (some ad) l) : From W 1 (.slice (some ad) l.length c) l.length (ptC l) := by
  refine .inr ⟨ad, c, rfl, by rw [ptC_length], fun j u hu => ?_⟩
  have hj : j < (ptC l).length := (List.getElem?_eq_some_iff.1 hu).1
  rw [ptC_length] at hj
  obtain ⟨b, off, h⟩ := h
  obtain ⟨h1, h2, h3⟩ := h j (by omega)
  injection h1 with h1
  subst h1
  rw [ptC_get l j (by omega)] at hu
  rw [Go.WideShapes.add_plain, ← hu]
  exact h3
set_option maxHeartbeats 1000000 in
theorem copyAt_any (A : Option Addr) (c : Nat) (l : List Int) (W : World) (h : PtAt W A l) (hl : l.length ≤ 100000) :
    Calls Try.prog 21 #[.slice A l.length c] W (NewPts W l) := by
  obtain ⟨i0, z0, hi, hz, hsL, hbL, hzc⟩ := infoP_
  rcases Option.eq_none_or_eq_some A with rfl | ⟨ad, rfl⟩
  · have hl0 : l = [] := by
      cases l with
      | nil => rfl
      | cons x l =>
        obtain ⟨b, off, h⟩ := h
        have := (h 0 (by simp)).1
        cases this
    subst hl0
    clear h hl
    go_enter Try.func21, Try.ntmps21
    go_wp2_with (at_builtin; (refine wpList_append_ran rfl (.const (.slice none 0 0)) (.tmp 3) 23 rfl _ _ rfl rfl (run_append_nothing _ 23 _ 22 i0 Try.underlying23 hi c) ?_))
    go_ret
    exact ⟨none, 0, rfl, World.ownsRow_nil _ _ _ _, Below.refl _ _⟩
  · have HF := Lib.hid (PtAt.from_ (c := c) h)
    obtain ⟨n, hn⟩ : ∃ n, l.length = n := ⟨_, rfl⟩
    have HN := Lib.hid hn
    rw [hn] at hl HF ⊢
    clear h hn
    go_enter Try.func21, Try.ntmps21
    go_wp2_with (at_builtin; (refine wpList_append_any rfl (.const (.slice none 0 0)) (.tmp 3) 23 rfl W.heap.size 22 i0 z0 1 8 Try.underlying23 hi hz hsL hbL hzc (by decide) (.slice none 0 0) 0 [] rfl (World.ownsRow_nil _ _ _ _) _ n (ptC l) rfl HF.out (pt_one _) (by unfold maxLen; omega) (by omega) (Nat.le_refl _) ?_); intro A1 c1 w1 hown1 hg1 hsn1; simp only [Nat.zero_add, List.nil_append] at hown1; have HO1 := Lib.hid hown1; have HT1 := Lib.hid ((Below.refl W.heap.size W).grown hg1 (Nat.le_refl _) (fun k hk => by cases hk)); clear hown1 hg1 hsn1)
    go_ret
    exact ⟨A1, c1, by rw [HN.out]; rfl, by rw [HN.out]; exact HO1.out, HT1.out⟩
/-- a list with a mark behind it -/
def Lent (K : Nat) (w : World) (A : Option Addr) (c n : Nat) (l : List Int) : Prop := l.length = n ∧ w.ownsRow K 22 1 (.slice A (n + 1) c) (n + 1) (ptC (l ++ [77]))
theorem Lent.below {K : Nat} {w w1 : World} {A : Option Addr} {c n : Nat} {l : List Int} (h : Lent K w A c n l) (hb : Below w.heap.size w w1) : Lent K w1 A c n l := ⟨h.1, own_step h.2 hb⟩
theorem Lent.ptAt {K : Nat} {w : World} {A : Option Addr} {c n : Nat} {l : List Int} (h : Lent K w A c n l) : PtAt w A l := by
  obtain ⟨rfl, h⟩ := h
  obtain ⟨b, off, g⟩ := PtAt.own h (by simp)
  refine ⟨b, off, fun i hi => ?_⟩
  have z := g i (by simp; omega)
  rw [List.getElem_append_left hi] at z
  exact z
set_option maxHeartbeats 1000000 in
theorem lentPts_any (A : Option Addr) (c : Nat) (l : List Int) (n : Nat) (W : World) (h : PtAt W A l) (hn : l.length = n) (hl : n ≤ 90000) :
    Calls Try.prog 10 #[.slice A n c] W fun e w' => ∃ A c, e = .returned (.slice A n c) ∧ Lent W.heap.size w' A c n l ∧ Below W.heap.size W w' := by
  obtain ⟨i0, z0, hi, hz, hsL, hbL, hzc⟩ := infoP_
  have CC := copyAt_any A c l W h (by omega)
  unfold NewPts at CC
  rw [hn] at CC
  have CC := Lib.hid CC
  have HN := Lib.hid hn
  clear hn
  go_enter Try.func10, Try.ntmps10
  go_wp2_with (first
    | (go_at_call 21; ((with_reducible refine CC.out.mono ?_); rintro e w1 ⟨A1, c1, rfl, ho1, hb1⟩; have HO1 := Lib.hid ho1; have HB1 := Lib.hid hb1; clear ho1 hb1))
    | (at_builtin; go_must (refine wpList_append_own _ rfl (.tmp 4) (.tmp 5) 23 rfl W.heap.size 22 i0 z0 1 8 Try.underlying23 hi hz hsL hbL hzc (by decide) _ _ _ rfl (HO1.out.alloc _) ⟨w1.heap.size, 0, none⟩ 1 1 (ptC [(77 : Int)]) rfl rfl (pt_new w1 77) (pt_one _) (by unfold maxLen; omega) (by omega) (by have := HB1.out.size; simp <;> omega) ?_); intro x2 w2 hown2 hg2 hnil2; obtain ⟨A2, c2, rfl⟩ := own_slice hown2; have HB2 := Lib.hid ((HB1.out.alloc HB1.out.size _).grown hg2 (by have := HB1.out.size; simp <;> omega) (own_lt HO1.out)); rw [← ptC_append] at hown2; obtain ⟨hc2, hc3⟩ := own_caps hown2; unfold maxLen at hc3; have HO2 := Lib.hid hown2; clear hown2 hg2 hnil2))
  go_ret
  exact ⟨A2, c2, rfl, ⟨HN.out, HO2.out⟩, HB2.out⟩
set_option maxHeartbeats 1000000 in
theorem staysPts_any (A B : Option Addr) (c d n K : Nat) (l : List Int) (W : World) (h : Lent K W A c n l) (hS : PtAt W B l) (hl : n ≤ 90000) :
    Calls Try.prog 19 #[.slice A n c, .slice B n d] W fun e w' => e = .returned (.bool true) ∧ Below W.heap.size W w' := by
  have CS := samePts_any A B c d n l W h.ptAt hS h.1 (by omega)
  have CS := Lib.hid CS
  obtain ⟨hn, ho⟩ := h
  obtain ⟨hc2, hc3⟩ := own_caps ho
  unfold maxLen at hc3
  obtain ⟨q, rfl⟩ := own_itsome ho
  have hq := ho.cellAt (n) (by omega)
  have hk : (ptC (l ++ [(77 : Int)]))[n]? = some (.int .u64 77) := by
    rw [ptC_get _ n (by simp; omega)]
    congr 2
    rw [List.getElem_append_right (by omega)]
    simp [hn]
  have hq := hq.trans hk
  have HQ := Lib.hid hq
  clear hq hk ho hn
  go_enter Try.func19, Try.ntmps19
  go_wp2_with (go_at_call 17; ((with_reducible refine CS.out.mono ?_); rintro e w1 ⟨rfl, hb1⟩; have q1 := (hb1.cell (p := ⟨q, n, none⟩) (World.block_lt_of_cell? W _ HQ.out)).trans HQ.out; have HB1 := Lib.hid hb1; clear hb1))
  go_ret
  exact ⟨rfl, HB1.out⟩
end Go.Proofs.Ytfpoapmbpbkibaa.Pb
