/-
  A slice of items that the caller owns, copied; a copy with a mark behind it (LentItems), and whether it is as it was (StaysItems).
-/
import Derived.Test.YtbnmddopgbhapaaGreatLetSame
import Derived.Test.YtbnmddopgbhapaaGreatAppendAny
namespace Go.Proofs.YtbnmddopgbhapaaGreat
open Go.RowKit

theorem run_append_nothing {P : Program} (w : World) (t ty e : TypeId) (i : TypeInfo) (ht : P.underlying t = some (.slice e)) (hi : P.info? e = some i) (c : Nat) :
    (Builtin.append_ #[t, t] ty #[.slice none 0 0, .slice none 0 c]).run P w = .ok (.slice none 0 0) w := by
  simp [Builtin.append_, run_underlying ht, sizeOf, typeInfo, hi, Builtin.lenOf, Builtin.firstCells]
theorem wpList_append_ran {P : Program} {w : World} {ops : Array Oper} {rest : List Oper} {o : Oper} {a : Act} {Q : Exit → Act → World → Prop} (hgd : o.guard = none) (s x : Operand) (t : TypeId)
    (ho : o.op = .call { callee := .builtin .append, args := #[s, x], argTypes := #[t, t] }) (v y : Value) (hs : a.eval s = v) (hx : a.eval x = y) {v' : Value} {w' : World}
    (hr : (Builtin.append_ #[t, t] o.type #[v, y]).run P w = .ok v' w') (h : wpList P ops Q rest (a.put o.dst v') w') : wpList P ops Q (o :: rest) a w :=
  wpList_plain hgd fun _ hK => Lib.wp_append_run w s x t t ho v y hs hx v' w' hr (hK _ _ h)
theorem SlAt.from_ {W : World} {A : Option Addr} {c : Nat} {l : List Item} (h : ItsAt W A l) (hA : A ≠ none) : From W 2 (.slice A l.length c) l.length (itemCells l) := by
  obtain ⟨ad, rfl⟩ := Option.ne_none_iff_exists'.1 hA
  refine .inr ⟨ad, c, rfl, by rw [itemCells_length], fun j u hu => ?_⟩
  have hj : j < (itemCells l).length := (List.getElem?_eq_some_iff.1 hu).1
  rw [itemCells_length] at hj
  obtain ⟨b, off, h⟩ := h
  obtain ⟨h1, h2, h3, h4⟩ := h (j / 2) (by omega)
  injection h1 with h1
  subst h1
  rcases (by omega : j = j / 2 * 2 ∨ j = j / 2 * 2 + 1) with e | e
  · rw [e, itemCells_get0 l (j / 2) (by omega)] at hu
    rw [Go.WideShapes.add_plain, e, ← hu]
    exact h3
  · rw [e, itemCells_get1 l (j / 2) (by omega)] at hu
    rw [Go.WideShapes.add_plain, e, ← hu]
    exact h4
set_option maxHeartbeats 1000000 in
theorem copySl_any (S : Value) (l : List Item) (W : World) (h : SlAt W S l) (hl : l.length ≤ 100000) :
    Calls Tryz.prog 18 #[S] W (NewItems W l) := by
  obtain ⟨i0, z0, hi, hz, hs2, hb32, hzc⟩ := infoItem
  obtain ⟨A, c, rfl, -, -, h⟩ := h
  rcases Option.eq_none_or_eq_some A with rfl | ⟨ad, rfl⟩
  · have hl0 : l = [] := by
      cases l with
      | nil => rfl
      | cons x l =>
        obtain ⟨b, off, h⟩ := h
        have := (h 0 (by simp)).1
        cases this
    subst hl0
    clear h hl
    go_enter Tryz.func18, Tryz.ntmps18
    go_wp2_with (at_builtin; (refine wpList_append_ran rfl (.const (.slice none 0 0)) (.tmp 3) 25 rfl _ _ rfl rfl (run_append_nothing _ 25 _ 58 i0 Tryz.underlying25 hi c) ?_))
    go_ret
    exact ⟨none, 0, rfl, World.ownsRow_nil _ _ _ _, Below.refl _ _⟩
  · have HF := Lib.hid (SlAt.from_ (c := c) h (by simp))
    obtain ⟨n, hn⟩ : ∃ n, l.length = n := ⟨_, rfl⟩
    have HN := Lib.hid hn
    rw [hn] at hl HF ⊢
    clear h hn
    go_enter Tryz.func18, Tryz.ntmps18
    go_wp2_with (at_builtin; (refine wpList_append_any rfl (.const (.slice none 0 0)) (.tmp 3) 25 rfl W.heap.size 58 i0 z0 2 32 Tryz.underlying25 hi hz hs2 hb32 hzc (by decide) (.slice none 0 0) 0 [] rfl (World.ownsRow_nil _ _ _ _) _ n (itemCells l) rfl HF.out (items_one _) (by unfold maxLen; omega) (by omega) (Nat.le_refl _) ?_); intro A1 c1 w1 hown1 hg1 hsn1; simp only [Nat.zero_add, List.nil_append] at hown1; have HO1 := Lib.hid hown1; have HT1 := Lib.hid ((Below.refl W.heap.size W).grown hg1 (Nat.le_refl _) (fun k hk => by cases hk)); clear hown1 hg1 hsn1)
    go_ret
    exact ⟨A1, c1, by rw [HN.out]; rfl, by rw [HN.out]; exact HO1.out, HT1.out⟩
theorem own_itsome {w : World} {base c n : Nat} {A : Option Addr} {xs : List Value} (h : w.ownsRow base 58 2 (.slice A (n + 1) c) (n + 1) xs) : ∃ q, A = some ⟨q, 0, none⟩ := by
  rcases h.2 with ⟨h0, h1⟩ | ⟨g, cap, cur, h0, hg, hh, _⟩
  · injection h0 with _ e1 _
    cases e1
  · injection h0 with h1 _ _
    exact ⟨g, h1⟩
abbrev markS : ByteArray := ⟨#[109, 97, 114, 107]⟩
/-- a list with a mark behind it -/
def Lent (K : Nat) (w : World) (A : Option Addr) (c n : Nat) (l : List Item) : Prop := l.length = n ∧ w.ownsRow K 58 2 (.slice A (n + 1) c) (n + 1) (itemCells (l ++ [(markS, ByteArray.empty)]))
theorem Lent.below {K : Nat} {w w1 : World} {A : Option Addr} {c n : Nat} {l : List Item} (h : Lent K w A c n l) (hb : Below w.heap.size w w1) : Lent K w1 A c n l := ⟨h.1, own_step h.2 hb⟩
theorem Lent.slAt {K : Nat} {w : World} {A : Option Addr} {c n : Nat} {l : List Item} (h : Lent K w A c n l) : SlAt w (.slice A n c) l := by
  obtain ⟨rfl, h⟩ := h
  obtain ⟨h1, h2⟩ := own_caps h
  obtain ⟨b, off, g⟩ := its_own h (by simp)
  refine ⟨A, c, rfl, by omega, h2, b, off, fun i hi => ?_⟩
  have z := g i (by simp; omega)
  rw [List.getElem_append_left hi] at z
  exact z
set_option maxHeartbeats 1000000 in
theorem lentItems_any (S : Value) (l : List Item) (n : Nat) (W : World) (h : SlAt W S l) (hn : l.length = n) (hl : n ≤ 90000) :
    Calls Tryz.prog 6 #[S] W fun e w' => ∃ A c, e = .returned (.slice A n c) ∧ Lent W.heap.size w' A c n l ∧ Below W.heap.size W w' := by
  obtain ⟨i0, z0, hi, hz, hs2, hb32, hzc⟩ := infoItem
  have CC := copySl_any S l W h (by omega)
  unfold NewItems at CC
  rw [hn] at CC
  have CC := Lib.hid CC
  have HN := Lib.hid hn
  obtain ⟨A, c, rfl, -, -, -⟩ := h
  rw [hn] at CC ⊢
  clear hn
  go_enter Tryz.func6, Tryz.ntmps6
  go_wp2_with (first
    | (go_at_call 18; ((with_reducible refine CC.out.mono ?_); rintro e w1 ⟨A1, c1, rfl, ho1, hb1⟩; have HO1 := Lib.hid ho1; have HB1 := Lib.hid hb1; clear ho1 hb1))
    | (at_builtin; go_must (refine wpList_append_own _ rfl (.tmp 4) (.tmp 6) 25 rfl W.heap.size 58 i0 z0 2 32 Tryz.underlying25 hi hz hs2 hb32 hzc (by decide) _ _ _ rfl (HO1.out.alloc _) ⟨w1.heap.size, 0, none⟩ 1 1 (itemCells [(markS, ByteArray.empty)]) rfl rfl (item_new w1 markS ByteArray.empty) (items_one _) (by unfold maxLen; omega) (by omega) (by have := HB1.out.size; simp <;> omega) ?_); intro x2 w2 hown2 hg2 hnil2; obtain ⟨A2, c2, rfl⟩ := own_slice hown2; have HB2 := Lib.hid ((HB1.out.alloc HB1.out.size _).grown hg2 (by have := HB1.out.size; simp <;> omega) (own_lt HO1.out)); rw [← itemCells_append] at hown2; obtain ⟨hc2, hc3⟩ := own_caps hown2; unfold maxLen at hc3; have HO2 := Lib.hid hown2; clear hown2 hg2 hnil2))
  go_ret
  exact ⟨A2, c2, rfl, ⟨HN.out, HO2.out⟩, HB2.out⟩
set_option maxHeartbeats 1000000 in
theorem staysItems_any (A : Option Addr) (c n K : Nat) (S : Value) (l : List Item) (W : World) (h : Lent K W A c n l) (hS : SlAt W S l) (hl : n ≤ 90000) :
    Calls Tryz.prog 11 #[.slice A n c, S] W fun e w' => e = .returned (.bool true) ∧ Below W.heap.size W w' := by
  have CS := sameSl_any (.slice A n c) S l l W h.slAt hS
  rw [(sameL_iff l l).2 rfl] at CS
  have CS := Lib.hid CS
  obtain ⟨hn, ho⟩ := h
  obtain ⟨hc2, hc3⟩ := own_caps ho
  unfold maxLen at hc3
  obtain ⟨q, rfl⟩ := own_itsome ho
  have hq := ho.cellAt (n * 2) (by omega)
  have hk : (itemCells (l ++ [(markS, ByteArray.empty)]))[n * 2]? = some (.string markS) := by
    rw [itemCells_get0 _ n (by simp; omega)]
    congr 2
    rw [List.getElem_append_right (by omega)]
    simp [hn]
  have hq := hq.trans hk
  have HQ := Lib.hid hq
  obtain ⟨A2, c2, rfl, -, -, -⟩ := hS
  rw [hn] at CS ⊢
  clear hq hk ho hn
  go_enter Tryz.func11, Tryz.ntmps11
  go_wp2_with (go_at_call 29; ((with_reducible refine CS.out.mono ?_); rintro e w1 ⟨rfl, hb1⟩; have q1 := (hb1.cell (p := ⟨q, n * 2, none⟩) (World.block_lt_of_cell? W _ HQ.out)).trans HQ.out; have HB1 := Lib.hid hb1; clear hb1))
  go_ret
  exact ⟨rfl, HB1.out⟩
end Go.Proofs.YtbnmddopgbhapaaGreat
