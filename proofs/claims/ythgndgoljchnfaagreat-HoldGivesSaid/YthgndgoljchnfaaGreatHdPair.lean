/-
  Two holds of the call's own, side by side (DX2); what Win does to one (DX.win); a box of six cells that stays (Six).
-/
import Derived.Test.YthgndgoljchnfaaGreatHg32
import Derived.Test.YthgndgoljchnfaaGreatHg30
import Derived.Test.YthgndgoljchnfaaGreatHdTold
namespace Go.Proofs.YthgndgoljchnfaaGreat
open Go.RowKit

theorem LentAt.own {W : World} {base n : Nat} {S : Value} {ms : List Item} (h : W.ownsRow base 31 2 S n (itemCells ms)) : LentAt W S n ms := by
  have hl : ms.length = n := by
    have := h.1
    rw [itemCells_length] at this
    omega
  have h0 := h
  obtain ⟨_, ⟨rfl, rfl⟩ | ⟨g, cap, cur, rfl, _, _, h3, h4, _⟩⟩ := h
  · obtain rfl := List.eq_nil_of_length_eq_zero hl
    exact ⟨none, 0, rfl, rfl, Nat.le_refl _, Nat.zero_le _, fun j u hj => by simp [itemCells] at hj⟩
  · exact ⟨_, cap, rfl, hl, h3, h4, fun j u hj => ⟨_, rfl, h0.cells (g := g) rfl j u hj⟩⟩
section
variable {VD : World → Nat → HO → List Nat → Prop} {V w w1 : World} {P : List Nat} {g gx gy : Nat} {s sx sy s1 : HO}
theorem DX.win (L : HoldLaws VD) (h : DX VD V w P g s) (f t : Nat) (ep : Int) (S : Value) (n : Nat) (ms : List Item) (hf : f < 18446744073709551616) (ht : t < 18446744073709551616) (he : Wide ep) (hn : n ≤ 1000) (hS : LentAt w S n ms) (hz : ∀ x ∈ ms, x.1.size ≤ maxLen ∧ x.2.size ≤ maxLen) (hP : ∀ q, S.ownBlock = some q → q ∈ P) (hk : s.k ≤ 1000) :
    Calls Tryz.prog 17 #[.pointer (some ⟨g, 0, none⟩), .agg #[.int .u64 (f : Nat), .int .u64 (t : Nat)], .int .i64 ep, S] w fun e w' =>
      ((¬ s.may f t ep ∨ ∃ x ∈ ms, inB f t (adr x) = false) ∧ DXPost VD V w P g (.int .i64 1) s e w') ∨
      (s.may f t ep ∧ (∀ x ∈ ms, inB f t (adr x) = true) ∧ ((putsEI s.most s.its ms ≠ 0 ∧ DXPost VD V w P g (.int .i64 (putsEI s.most s.its ms)) s e w') ∨
        (putsEI s.most s.its ms = 0 ∧ DXPost VD V w P g (.int .i64 0) ⟨s.nd, s.most, s.kept - n, (s.take f t ep).own, putsSI s.most s.its ms, s.g, s.k + 1⟩ e w'))) := by
  obtain ⟨x, ⟨F, b, c⟩, d⟩ := h
  refine (L.win f t ep S n ms hf ht he hn hS hz (fun q hq z => (c q z).2 (hP q hq)) hk b).mono ?_
  rintro e w' (⟨h1, h2⟩ | ⟨h1, h2, ⟨h3, h4⟩ | ⟨h3, h4⟩⟩)
  · exact .inl ⟨h1, DX.of x c d h2⟩
  · exact .inr ⟨h1, h2, .inl ⟨h3, DX.of x c d h4⟩⟩
  · exact .inr ⟨h1, h2, .inr ⟨h3, DX.of x c d h4⟩⟩
/-- two of them, that share nothing -/
def DX2 (VD : World → Nat → HO → List Nat → Prop) (V w : World) (P : List Nat) (gx : Nat) (sx : HO) (gy : Nat) (sy : HO) : Prop :=
  ∃ Fy, DX VD V w (Fy ++ P) gx sx ∧ VD w gy sy Fy ∧ ∀ q ∈ Fy, V.heap.size ≤ q ∧ q ∉ P
theorem DX2.base (h : DX2 VD V w P gx sx gy sy) : Below V.heap.size V w := by
  obtain ⟨Fy, h1, -, -⟩ := h
  exact h1.base
theorem DX2.fst (h : DX2 VD V w P gx sx gy sy) : DX VD V w P gx sx := by
  obtain ⟨Fy, h1, -, -⟩ := h
  exact h1.less (fun q hq => List.mem_append_right _ hq)
theorem DX2.swap (L : HoldLaws VD) (h : DX2 VD V w P gx sx gy sy) : DX2 VD V w P gy sy gx sx := by
  obtain ⟨Fy, ⟨b, ⟨Fx, hx, hx2⟩, hp⟩, hy, hy2⟩ := h
  refine ⟨Fx, ⟨b, ⟨Fy, hy, fun q hq => ⟨(hy2 q hq).1, fun z => ?_⟩⟩, fun q hq => ?_⟩, hx, fun q hq => ⟨(hx2 q hq).1, fun z => (hx2 q hq).2 (List.mem_append_right _ z)⟩⟩
  · rcases List.mem_append.1 z with z | z
    · exact (hx2 q z).2 (List.mem_append_left _ hq)
    · exact (hy2 q hq).2 z
  · rcases List.mem_append.1 hq with z | z
    · exact (L.has_ hx).2 q z
    · exact hp q (List.mem_append_right _ z)
theorem DX2.below (L : HoldLaws VD) (h : DX2 VD V w P gx sx gy sy) (hb : Below w.heap.size w w1) : DX2 VD V w1 P gx sx gy sy := by
  obtain ⟨Fy, h1, h2, h3⟩ := h
  exact ⟨Fy, h1.below L hb, L.touch h2 (Touch.ofBelow (F := []) hb) (by simp), h3⟩
theorem DX2.less {Q : List Nat} (h : DX2 VD V w P gx sx gy sy) (hQ : ∀ q ∈ Q, q ∈ P) : DX2 VD V w Q gx sx gy sy := by
  obtain ⟨Fy, h1, h2, h3⟩ := h
  refine ⟨Fy, h1.less (fun q hq => ?_), h2, fun q hq => ⟨(h3 q hq).1, fun z => (h3 q hq).2 (hQ q z)⟩⟩
  rcases List.mem_append.1 hq with z | z
  · exact List.mem_append_left _ z
  · exact List.mem_append_right _ (hQ q z)
theorem DX2.more (L : HoldLaws VD) (h : DX2 VD V w P gx sx gy sy) (hb : Below w.heap.size w w1) {Q : List Nat} (hQ : ∀ q ∈ Q, w.heap.size ≤ q ∧ q < w1.heap.size) : DX2 VD V w1 (Q ++ P) gx sx gy sy := by
  obtain ⟨Fy, h1, h2, h3⟩ := h
  have z := h1.more L hb hQ
  refine ⟨Fy, z.less (fun q hq => ?_), L.touch h2 (Touch.ofBelow (F := []) hb) (by simp), fun q hq => ⟨(h3 q hq).1, fun y => ?_⟩⟩
  · simp only [List.mem_append] at hq ⊢
    rcases hq with y | y | y
    · exact .inr (.inl y)
    · exact .inl y
    · exact .inr (.inr y)
  · rcases List.mem_append.1 y with y | y
    · have := (hQ q y).1
      have := (L.has_ h2).2 q hq
      omega
    · exact (h3 q hq).2 y
/-- behind a call on the first one; B: new blocks of what it told -/
theorem DX2.back (L : HoldLaws VD) {B Fy : List Nat} (hx : DX VD V w1 (B ++ (Fy ++ P)) gx s1) (hk : Kept (Fy ++ P) w w1) (hy : VD w gy sy Fy) (h3 : ∀ q ∈ Fy, V.heap.size ≤ q ∧ q ∉ P) (hB : ∀ q ∈ B, w.heap.size ≤ q) : DX2 VD V w1 (B ++ P) gx s1 gy sy := by
  obtain ⟨G, tG, hG⟩ := hk
  refine ⟨Fy, hx.less (fun q hq => ?_), L.touch hy tG (fun q hq => hG q (List.mem_append_left _ hq)), fun q hq => ⟨(h3 q hq).1, fun z => ?_⟩⟩
  · simp only [List.mem_append] at hq ⊢
    rcases hq with y | y | y
    · exact .inr (.inl y)
    · exact .inl y
    · exact .inr (.inr y)
  · rcases List.mem_append.1 z with z | z
    · have := hB q z
      have := (L.has_ hy).2 q hq
      omega
    · exact (h3 q hq).2 z
theorem keptR {Q P : List Nat} {a b : World} (h : Kept (Q ++ P) a b) : Kept P a b := h.less (fun _ hq => List.mem_append_right _ hq)
/-- the second one is made -/
theorem DX2.new (L : HoldLaws VD) (h : DX VD V w P gx sx) (nd most : Int) (h1 : Wide nd) (h2 : Wide most) : Calls Tryz.prog 12 #[.int .i64 nd, .int .i64 most] w fun e w' =>
    ∃ gy, e = .returned (.pointer (some ⟨gy, 0, none⟩)) ∧ DX2 VD V w' P gx sx gy (HO.new nd most) := by
  refine (L.new nd most w h1 h2).mono ?_
  rintro e w' ⟨g, F, rfl, h3, h4, h5⟩
  refine ⟨g, rfl, F, h.more L h5 (fun q hq => ⟨h4 q hq, (L.has_ h3).2 q hq⟩), h3, fun q hq => ⟨Nat.le_trans h.base.size (h4 q hq), fun z => ?_⟩⟩
  have := h.2.2 q z
  have := h4 q hq
  omega
theorem DX2.own (L : HoldLaws VD) (h : DX2 VD V w P gx sx gy sy) (f t : Nat) (ep : Int) (hf : f < 18446744073709551616) (ht : t < 18446744073709551616) (hw : Wide ep) (hk : sx.k ≤ 1000) (hm : sx.may f t ep) :
    Calls Tryz.prog 13 #[.pointer (some ⟨gx, 0, none⟩), .agg #[.int .u64 (f : Nat), .int .u64 (t : Nat)], .int .i64 ep] w fun e w' => e = .returned (.bool true) ∧ DX2 VD V w' P gx (sx.take f t ep) gy sy := by
  obtain ⟨Fy, h1, h2, h3⟩ := h
  refine (h1.own L f t ep hf ht hw hk).mono ?_
  rintro e w' (⟨-, rfl, h4, h5⟩ | ⟨h4, -⟩)
  · exact ⟨rfl, DX2.back (B := []) L h4 h5 h2 h3 (by simp)⟩
  · exact absurd hm h4
theorem DX2.do_ (L : HoldLaws VD) (h : DX2 VD V w P gx sx gy sy) (a : AK) (ha : a.Fit) (hk : sx.k ≤ 1000) (h1 : sx.g.l.length ≤ 1000) : Calls Tryz.prog 14 #[.pointer (some ⟨gx, 0, none⟩), .agg a.cells] w fun e w' =>
    ∃ t s1 S, Did sx a t s1 ∧ e = .returned (.agg (t.cells S)) ∧ w'.ownsRow w.heap.size 31 2 S t.its.length (itemCells t.its) ∧ DX2 VD V w' P gx s1 gy sy ∧ Kept P w w' := by
  obtain ⟨Fy, hx, hy, h3⟩ := h
  refine (hx.do_ L a ha hk h1).mono ?_
  rintro e w' ⟨t, s1, S, h4, rfl, ho, h5, h6⟩
  exact ⟨t, s1, S, h4, rfl, ho, (DX2.back L h5 h6 hy h3 (fun q hq => (ho.lt q (by simpa using hq)).1)).less (fun q hq => List.mem_append_right _ hq), keptR h6⟩
theorem DX2.freeze (L : HoldLaws VD) (h : DX2 VD V w P gx sx gy sy) (f t : Nat) (hf : f < 18446744073709551616) (ht : t < 18446744073709551616) (hk : sx.k ≤ 1000) (hs : sx.g.shut = false) (ho : ∀ x, x < 18446744073709551616 → inB f t x = true → sx.own x ≠ none) : Calls Tryz.prog 20 #[.pointer (some ⟨gx, 0, none⟩), .agg #[.int .u64 (f : Nat), .int .u64 (t : Nat)]] w fun e w' =>
    ∃ (ep : Int) (S : Value), e = .returned (.tuple #[S, .int .i64 ep, .int .i64 0]) ∧ w'.ownsRow w.heap.size 31 2 S (arcL sx.its f t).length (itemCells (arcL sx.its f t)) ∧ Greatest sx.own (fun x => inB f t x = true) ep ∧ DX2 VD V w' (S.ownBlock.toList ++ P) gx ⟨sx.nd, sx.most, sx.kept, sx.own, sx.its, ⟨true, f, t, sx.g.l, sx.g.k⟩, sx.k⟩ gy sy ∧ Kept P w w' := by
  obtain ⟨Fy, hx, hy, h3⟩ := h
  refine (hx.freeze L f t hf ht hk).mono ?_
  rintro e w' ⟨l, ep, er, s1, S, rfl, hr, h5, h6, (⟨z, _⟩ | ⟨_, ⟨x, z1, z2, z3⟩, _⟩ | ⟨_, _, rfl, rfl, hg, rfl⟩)⟩
  · rw [hs] at z
    cases z
  · exact absurd z3 (ho x z1 z2)
  · exact ⟨ep, S, rfl, hr, hg, DX2.back L h5 h6 hy h3 (fun q hq => (hr.lt q (by simpa using hq)).1), keptR h6⟩
theorem DX2.lose (L : HoldLaws VD) (h : DX2 VD V w P gx sx gy sy) (n : Int) (hn : Wide n) (hk : sx.k ≤ 1000) (h1 : sx.g.l.length ≤ 1000) (hs : sx.g.shut = true) : Calls Tryz.prog 25 #[.pointer (some ⟨gx, 0, none⟩), .int .i64 n] w fun e w' =>
    e = .returned (.int .i64 0) ∧ DX2 VD V w' P gx (sx.lose n) gy sy ∧ Kept P w w' := by
  obtain ⟨Fy, hx, hy, h3⟩ := h
  refine (hx.lose L n hn hk h1).mono ?_
  rintro e w' (⟨-, rfl, h4, h5⟩ | ⟨z, -⟩)
  · exact ⟨rfl, DX2.back (B := []) L h4 h5 hy h3 (by simp), keptR h5⟩
  · rw [hs] at z
    cases z
/-- what the first one wins -/
theorem DX2.win (L : HoldLaws VD) (h : DX2 VD V w P gx sx gy sy) (f t : Nat) (ep : Int) (S : Value) (n : Nat) (ms : List Item) (hf : f < 18446744073709551616) (ht : t < 18446744073709551616) (he : Wide ep) (hn : n ≤ 1000) (hS : LentAt w S n ms) (hz : ∀ x ∈ ms, x.1.size ≤ maxLen ∧ x.2.size ≤ maxLen) (hP : ∀ q, S.ownBlock = some q → q ∈ P) (hk : sx.k ≤ 1000)
    (hm : sx.may f t ep) (ha : ∀ x ∈ ms, inB f t (adr x) = true) (h0 : putsEI sx.most sx.its ms = 0) : Calls Tryz.prog 17 #[.pointer (some ⟨gx, 0, none⟩), .agg #[.int .u64 (f : Nat), .int .u64 (t : Nat)], .int .i64 ep, S] w fun e w' =>
      e = .returned (.int .i64 0) ∧ DX2 VD V w' P gx ⟨sx.nd, sx.most, sx.kept - n, (sx.take f t ep).own, putsSI sx.most sx.its ms, sx.g, sx.k + 1⟩ gy sy ∧ Kept P w w' := by
  obtain ⟨Fy, hx, hy, h3⟩ := h
  refine (hx.win L f t ep S n ms hf ht he hn hS hz (fun q hq => List.mem_append_right _ (hP q hq)) hk).mono ?_
  rintro e w' (⟨z | ⟨x, z1, z2⟩, -⟩ | ⟨-, -, ⟨z, -⟩ | ⟨-, rfl, h4, h5⟩⟩)
  · exact absurd hm z
  · rw [ha x z1] at z2
    cases z2
  · exact absurd h0 z
  · exact ⟨rfl, DX2.back (B := []) L h4 h5 hy h3 (by simp), keptR h5⟩
end
/-- a box of six cells -/
def Six (w : World) (q : Nat) (a b c d e f : Value) : Prop := w.cell? ⟨q, 0, none⟩ = some a ∧ w.cell? ⟨q, 1, none⟩ = some b ∧ w.cell? ⟨q, 2, none⟩ = some c ∧ w.cell? ⟨q, 3, none⟩ = some d ∧ w.cell? ⟨q, 4, none⟩ = some e ∧ w.cell? ⟨q, 5, none⟩ = some f
theorem Six.new (w : World) (a b c d e f : Value) (T : TypeId) : Six (w.alloc (.cells #[a, b, c, d, e, f] T)) w.heap.size a b c d e f := six_new w a b c d e f T
theorem Six.lt {w : World} {q : Nat} {a b c d e f : Value} (h : Six w q a b c d e f) : q < w.heap.size := World.block_lt_of_cell? w _ h.1
theorem Six.kept {w w1 : World} {q : Nat} {a b c d e f : Value} {P : List Nat} (h : Six w q a b c d e f) (hk : Kept P w w1) (hq : q ∈ P) : Six w1 q a b c d e f := by
  have hl := h.lt
  obtain ⟨h0, h1, h2, h3, h4, h5⟩ := h
  exact ⟨(hk.cell (p := ⟨q, 0, none⟩) hq hl).trans h0, (hk.cell (p := ⟨q, 1, none⟩) hq hl).trans h1, (hk.cell (p := ⟨q, 2, none⟩) hq hl).trans h2, (hk.cell (p := ⟨q, 3, none⟩) hq hl).trans h3, (hk.cell (p := ⟨q, 4, none⟩) hq hl).trans h4, (hk.cell (p := ⟨q, 5, none⟩) hq hl).trans h5⟩
theorem Six.below {w w1 : World} {q : Nat} {a b c d e f : Value} (h : Six w q a b c d e f) (hb : Below w.heap.size w w1) : Six w1 q a b c d e f := h.kept (P := [q]) (Kept.below hb) (by simp)
end Go.Proofs.YthgndgoljchnfaaGreat
