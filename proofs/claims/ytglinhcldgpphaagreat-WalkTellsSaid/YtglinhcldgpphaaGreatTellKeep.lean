/-
  WalkTells: the ways of nil; the book beside the shelf and its ways (KB); what the ways and the lists are that are asked for (SX).
-/
import Derived.Test.YtglinhcldgpphaaGreatTellWays
import Derived.Test.YtglinhcldgpphaaGreatBookAll
namespace Go.Proofs.YtglinhcldgpphaaGreat
open Go.RowKit

set_option maxRecDepth 100000 in
theorem collect0_any (W : World) : Calls Tryz.prog 14 #[.nilFunc, .int .i64 5] W fun e w' => e = .returned (.slice none 0 0) ∧ Below W.heap.size W w' := by
  have hne : ∀ w, (binOp .eql 41 .nilFunc .nilFunc).run Tryz.prog w = .ok (.bool true) w := fun w => run_eql_func_nil w _ Tryz.underlying41
  refine (callsIn_wide (n := 0)).1 (callsIn_of_wp_marks Tryz.func14 rfl trivial ?_ rfl)
  simp only [Tryz.ntmps14, List.size_toArray, List.length_cons, List.length_nil, Nat.reduceAdd, Nat.reduceSub, Array.replicate_succ, Array.replicate_zero, List.push_toArray, List.append_toArray, List.nil_append, List.cons_append]
  gi_wp2
  refine ⟨.slice none 0 0, ?_, rfl, ((Below.refl _ W).alloc (Nat.le_refl _) _).alloc (by simp) _⟩
  simp [results, Tryz.results14, go_sem]
/-- a way with nothing on it -/
def Bare (w' : World) (fv : Value) : Prop := ∀ w2, Below w'.heap.size w' w2 → Calls Tryz.prog 14 #[fv, .int .i64 5] w2 fun e w3 => ∃ A c, e = .returned (.slice A 0 c) ∧ Below w2.heap.size w2 w3
theorem bare_of {w' : World} {i : Nat} {lb : Array Value} (hi : ∀ a w, (callFunc i a).run Tryz.prog w = .ok (.enter i a) w) {B : List Nat} (hB : ∀ q ∈ B, q < w'.heap.size) (hw : ∀ V, Below w'.heap.size w' V → WayIn i lb [] B V) : Bare w' (.func (.func i) #[] lb) := fun w2 hb => by
  refine (collect_way hi (fun q hq => Nat.lt_of_lt_of_le (hB q hq) hb.size) (fun V hV => hw V (acc hb hV)) (by simp) 5 (by omega) (by omega)).mono ?_
  rintro e w3 ⟨A, c, rfl, -, h⟩
  exact ⟨A, c, rfl, h⟩
theorem nilAll_any (W : World) : Calls Tryz.prog 6 #[.pointer none] W fun e w' => ∃ fv, e = .returned fv ∧ Bare w' fv ∧ Below W.heap.size W w' := by
  refine (all_any none W).mono ?_
  rintro e w' ⟨rfl, rfl⟩
  have hb : Below W.heap.size W (W.alloc (.cells #[.pointer none] 27)) := (Below.refl _ _).alloc (Nat.le_refl _) _
  exact ⟨_, rfl, bare_of (B := [W.heap.size]) (enters_of Tryz.func24 (by kernel_rfl) rfl) (by simp) (fun V hV => allWay ((srcNil W).items V (acc hb hV)) (cell_keep (by go_simp) (Touch.ofBelow (F := []) hV) (by simp)) _), hb⟩
theorem nilRange_any (f t : ByteArray) (W : World) : Calls Tryz.prog 7 #[.pointer none, .string f, .string t] W fun e w' => ∃ fv, e = .returned fv ∧ Bare w' fv ∧ Below W.heap.size W w' := by
  refine (range_post none f t W).mono ?_
  rintro e w' ⟨a0, a1, a2, rfl, h0, h1, h2, -, -, hb⟩
  have x0 : a0 < _ := World.block_lt_of_cell? w' _ h0
  have x1 : a1 < _ := World.block_lt_of_cell? w' _ h1
  have x2 : a2 < _ := World.block_lt_of_cell? w' _ h2
  refine ⟨_, rfl, bare_of (B := [a0, a1, a2]) (enters_of Tryz.func27 (by kernel_rfl) rfl) (by simp; omega) (fun V hV => ?_), hb⟩
  have t' : Touch [] w' V := Touch.ofBelow hV
  have hs := hV.size
  exact rangeWay Rising.nil (fun w hw => (srcNil W).items w (acc (acc hb hV) hw)) (cell_keep h0 t' (by simp)) (cell_keep h1 t' (by simp)) (cell_keep h2 t' (by simp)) _ (by simp) (by simp) (by simp; omega)
theorem nilArc_any (f t : Nat) (hf : f < 18446744073709551616) (ht : t < 18446744073709551616) (W : World) : Calls Tryz.prog 9 #[.pointer none, .agg #[.int .u64 (f : Nat), .int .u64 (t : Nat)]] W fun e w' => ∃ fv, e = .returned fv ∧ Bare w' fv ∧ Below W.heap.size W w' := by
  refine (arc_post none f t W).mono ?_
  rintro e w' ⟨a0, a1, rfl, h0, h1, h2, hb⟩
  have x0 : a0 < _ := World.block_lt_of_cell? w' _ h0
  have x1 : a1 < _ := World.block_lt_of_cell? w' _ h1
  refine ⟨_, rfl, bare_of (B := [a0, a1]) (enters_of Tryz.func29 (by kernel_rfl) rfl) (by simp; omega) (fun V hV => ?_), hb⟩
  have t' : Touch [] w' V := Touch.ofBelow hV
  have hs := hV.size
  have z := arcWay (l := []) Rising.nil (fun w hw => (srcNil W).copy w (acc (acc hb hV) hw)) hf ht (cell_keep h0 t' (by simp)) (cell_keep h1 t' (by simp)) (cell_keep h2 t' (by simp)) [a0, a1] (by simp; omega)
  have e : arcL [] f t = [] := by simp [arcL]
  rwa [e] at z

/-- what was kept till now, beside a world that stays; ps: lists that wait to be kept; P: blocks that the book has not -/
def KB (w0 w : World) (gk : Nat) (es ps : List (Value × List Item)) (P : List Nat) : Prop :=
  ∃ us va vb, BK w gk va vb es us ∧ Touch [gk] w0 w ∧ (∀ q ∈ BF gk va vb es us, q = gk ∨ w0.heap.size ≤ q) ∧ (∀ p ∈ ps, rowOk w p ∧ ∀ q ∈ blk p.1, w0.heap.size ≤ q ∧ q ∉ BF gk va vb es us ∧ q ∉ P) ∧ ps.Pairwise (fun a b => ∀ q ∈ blk a.1, q ∉ blk b.1) ∧ ∀ q ∈ P, q < w.heap.size ∧ q ∉ BF gk va vb es us
theorem KB.touch {w0 w : World} {gk : Nat} {es ps : List (Value × List Item)} {P : List Nat} (h : KB w0 w gk es ps P) : Touch [gk] w0 w := by
  obtain ⟨us, va, vb, _, t, _⟩ := h
  exact t
theorem KB.below {w0 w w1 : World} {gk : Nat} {es ps : List (Value × List Item)} {P : List Nat} (h : KB w0 w gk es ps P) (hb : Below w.heap.size w w1) : KB w0 w1 gk es ps P := by
  obtain ⟨us, va, vb, h1, h2, h3, h4, h5, h6⟩ := h
  have t : Touch [] w w1 := Touch.ofBelow hb
  exact ⟨us, va, vb, h1.touch t (by simp), h2.trans t (by simp), h3, fun p hp => ⟨(h4 p hp).1.touch t (by simp), (h4 p hp).2⟩, h5, fun q hq => ⟨Nat.lt_of_lt_of_le (h6 q hq).1 hb.size, (h6 q hq).2⟩⟩
/-- a new block that is kept out -/
theorem KB.fresh {w0 w : World} {gk : Nat} {es : List (Value × List Item)} (h : KB w0 w gk es [] []) (o : Obj) : KB w0 (w.alloc o) gk es [] [w.heap.size] := by
  have hb : Below w.heap.size w (w.alloc o) := (Below.refl _ _).alloc (Nat.le_refl _) _
  have lt : ∀ us va vb, BK w gk va vb es us → w.heap.size ∉ BF gk va vb es us := fun us va vb h1 z => by have := h1.ltF _ z; omega
  obtain ⟨us, va, vb, h1, h2, h3, h4, h5, h6⟩ := h
  have t : Touch [] w (w.alloc o) := Touch.ofBelow hb
  refine ⟨us, va, vb, h1.touch t (by simp), h2.trans t (by simp), h3, by simp, List.Pairwise.nil, fun q hq => ?_⟩
  simp at hq
  subst hq
  exact ⟨by simp, lt us va vb h1⟩
theorem KB.free {w0 w : World} {gk : Nat} {es : List (Value × List Item)} {P : List Nat} (h : KB w0 w gk es [] P) : KB w0 w gk es [] [] := by
  obtain ⟨us, va, vb, h1, h2, h3, h4, h5, h6⟩ := h
  exact ⟨us, va, vb, h1, h2, h3, by simp, List.Pairwise.nil, by simp⟩
theorem KB.push {w0 w w1 : World} {gk : Nat} {es ps : List (Value × List Item)} {P : List Nat} (h : KB w0 w gk es ps P) (hb : Below w.heap.size w w1) {A : Option Addr} {c n : Nat} {l : List Item} (hn : l.length = n) (ho : w1.ownsRow w.heap.size 59 2 (.slice A l.length c) l.length (itemCells l)) : KB w0 w1 gk es (ps ++ [(.slice A n c, l)]) P := by
  subst hn
  obtain ⟨us, va, vb, h1, h2, h3, h4, h5, h6⟩ := h
  have t : Touch [] w w1 := Touch.ofBelow hb
  refine ⟨us, va, vb, h1.touch t (by simp), h2.trans t (by simp), h3, fun p hp => ?_, List.pairwise_append.2 ⟨h5, List.pairwise_singleton _ _, fun a ha b hb' q hq hq' => ?_⟩, fun q hq => ⟨Nat.lt_of_lt_of_le (h6 q hq).1 hb.size, (h6 q hq).2⟩⟩
  · rcases List.mem_append.1 hp with z | z
    · exact ⟨(h4 p z).1.touch t (by simp), (h4 p z).2⟩
    · simp at z
      subst z
      refine ⟨⟨A, c, rfl, own_mono ho (Nat.zero_le _)⟩, fun q hq => ?_⟩
      have y := (ho.lt q (mem_blk.1 hq)).1
      refine ⟨Nat.le_trans h2.size y, fun z => ?_, fun z => ?_⟩
      · have := h1.ltF q z
        omega
      · have := (h6 q z).1
        omega
  · simp at hb'
    subst hb'
    have y := (ho.lt q (mem_blk.1 hq')).1
    have := (h4 a ha).1.lt hq
    omega
theorem KB.book {w0 w : World} {gk : Nat} {es ps : List (Value × List Item)} {P : List Nat} {A : Option Addr} {c n : Nat} {l : List Item} (h : KB w0 w gk es ((.slice A n c, l) :: ps) P) (hn : l.length = n) (he : es.length < 250) (hl : n ≤ 100000) :
    Calls Tryz.prog 15 #[.pointer (some ⟨gk, 0, none⟩), .slice A n c] w fun e w' => e = .returned (.tuple #[]) ∧ KB w0 w' gk (es ++ [(.slice A n c, l)]) ps P ∧ ∃ G, Touch G w w' ∧ ∀ q ∈ P, q ∉ G := by
  subst hn
  obtain ⟨us, va, vb, h1, h2, h3, h4, h5, h8⟩ := h
  obtain ⟨⟨A', c', e1, hr⟩, hb⟩ := h4 _ List.mem_cons_self
  obtain ⟨h6, h7⟩ := List.pairwise_cons.1 h5
  refine (bookItems_any gk va vb es us A c l w h1 hr (fun q hq => ?_) he hl).mono ?_
  · have z := (hb q hq).2.1
    unfold BF at z
    simp only [List.mem_cons, List.mem_append, not_or] at z
    exact ⟨z.1, z.2.1, z.2.2.1, z.2.2.2.1⟩
  · rintro e' w' ⟨rfl, va', vb', u, k1, k2, k3⟩
    have inB : ∀ q ∈ gk :: (blk va ++ blk vb), q ∈ BF gk va vb es us := fun q hq => by
      unfold BF
      simp at hq ⊢
      rcases hq with z | z | z
      · simp [z]
      · simp [z]
      · simp [z]
    refine ⟨rfl, ⟨us ++ [(u, l)], va', vb', k1, h2.trans k2 (fun q hq => (h3 q (inB q hq)).imp (fun z => by simp [z]) id), fun q hq => ?_, fun p hp => ?_, h7, fun q hq => ⟨Nat.lt_of_lt_of_le (h8 q hq).1 k2.size, fun z => ?_⟩⟩, _, k2, fun q hq z => (h8 q hq).2 (inB q z)⟩
    · rcases k3 q hq with z | z | z
      · exact h3 q z
      · exact .inr (hb q z).1
      · exact .inr (Nat.le_trans h2.size z)
    · obtain ⟨y1, y2⟩ := h4 p (List.mem_cons_of_mem _ hp)
      refine ⟨y1.touch k2 (fun q hq z => (y2 q hq).2.1 (inB q z)), fun q hq => ⟨(y2 q hq).1, fun z => ?_, (y2 q hq).2.2⟩⟩
      rcases k3 q z with z | z | z
      · exact (y2 q hq).2.1 z
      · exact h6 p hp q z hq
      · have := y1.lt hq
        omega
    · rcases k3 q z with z | z | z
      · exact (h8 q hq).2 z
      · exact (hb q z).2.2 hq
      · have := (h8 q hq).1
        omega
/-- what is kept lies as it lay -/
theorem KB.row {w0 w : World} {gk : Nat} {es ps : List (Value × List Item)} {P : List Nat} (h : KB w0 w gk es ps P) {A : Option Addr} {c n : Nat} {l : List Item} (hx : (.slice A n c, l) ∈ es ++ ps) : Row w (.slice A n c) l := by
  obtain ⟨us, va, vb, h1, h2, h3, h4, h5⟩ := h
  have z : rowOk w (.slice A n c, l) := by
    rcases List.mem_append.1 hx with y | y
    · exact h1.rows _ y
    · exact (h4 _ y).1
  obtain ⟨A', c', e1, hr⟩ := z
  exact hr
theorem KB.apart {w0 w : World} {gk : Nat} {es : List (Value × List Item)} {P : List Nat} (h : KB w0 w gk es [] P) (he : es.length ≤ 250) (hl : ∀ x ∈ es, x.2.length ≤ 90000) :
    Calls Tryz.prog 16 #[.pointer (some ⟨gk, 0, none⟩)] w fun e w' => e = .returned (.bool true) ∧ Touch [gk] w0 w' := by
  obtain ⟨us, va, vb, h1, h2, h3, h4, h5⟩ := h
  refine (apart_any gk va vb es us w h1 he hl).mono ?_
  rintro e w' ⟨rfl, t⟩
  exact ⟨rfl, h2.trans t (fun q hq => (h3 q (by unfold BF; simp [hq])).imp (fun z => by simp [z]) id)⟩
theorem bk_made (W : World) : BK (W.alloc (.cells #[.slice none 0 0, .slice none 0 0, .slice none 0 0, .slice none 0 0, .slice none 0 0, .slice none 0 0, .slice none 0 0, .slice none 0 0, .slice none 0 0, .slice none 0 0, .slice none 0 0, .slice none 0 0, .slice none 0 0, .slice none 0 0] 40)) W.heap.size (.slice none 0 0) (.slice none 0 0) [] [] where
  lt := by simp
  none j hj h6 h7 := by
    have h : j = 0 ∨ j = 1 ∨ j = 2 ∨ j = 3 ∨ j = 4 ∨ j = 5 ∨ j = 8 ∨ j = 9 ∨ j = 10 ∨ j = 11 ∨ j = 12 ∨ j = 13 := by omega
    rcases h with rfl | rfl | rfl | rfl | rfl | rfl | rfl | rfl | rfl | rfl | rfl | rfl <;> go_simp
  c6 := by go_simp
  c7 := by go_simp
  f6 := by go_simp
  f7 := by go_simp
  own6 := World.ownsRow_nil _ _ _ _
  own7 := World.ownsRow_nil _ _ _ _
  rows x hx := by cases hx
  copies x hx := by cases hx
  same := rfl
  apart := by simp [blk, fps, Value.ownBlock]
  beside q hq := by cases hq
theorem KB.start {w2 w0 : World} (hb : Below (w2.heap.size + 1) (w2.alloc (.cells #[.slice none 0 0, .slice none 0 0, .slice none 0 0, .slice none 0 0, .slice none 0 0, .slice none 0 0, .slice none 0 0, .slice none 0 0, .slice none 0 0, .slice none 0 0, .slice none 0 0, .slice none 0 0, .slice none 0 0, .slice none 0 0] 40)) w0) : KB w0 w0 w2.heap.size [] [] [] := by
  refine ⟨[], _, _, (bk_made w2).touch (Touch.ofBelow (F := []) (by simpa using hb)) (by simp), (Touch.refl [] _).mono (by simp), fun q hq => ?_, by simp, List.Pairwise.nil, by simp⟩
  simp [BF, blk, fps, Value.ownBlock] at hq
  exact .inl hq

/-- the ways of a shelf, and lists of their own, that came of a world where the shelf lay, and the document's -/
def SX (SH : ShP) (SQ : SqP) (w2 w : World) (gs gr : Nat) (l : List Item) (fs : List (Value × Way)) (ws : List (Value × List Item)) : Prop :=
  Below w2.heap.size w2 w ∧ w2.heap.size + 1 ≤ w.heap.size ∧ ∃ F Fr, SH w2 gs 200 l F ∧ RS w2 gr Fr 200 l ∧ (∀ x ∈ fs, ∃ B, SQ w x.1 x.2 gs B ∧ ∀ q ∈ B, w2.heap.size + 1 ≤ q) ∧ ∀ x ∈ ws, rowOk w x ∧ ∀ q ∈ blk x.1, w2.heap.size + 1 ≤ q
section
variable {SH : ShP} {SQ : SqP} {w2 w w1 : World} {gs gr : Nat} {l : List Item} {fs : List (Value × Way)} {ws : List (Value × List Item)}
theorem SX.below (KW : WalkLaws SH SQ) (h : SX SH SQ w2 w gs gr l fs ws) (hb : Below w.heap.size w w1) : SX SH SQ w2 w1 gs gr l fs ws := by
  obtain ⟨h1, h2, F, Fr, h3, h4, h5, h6⟩ := h
  have t : Touch [] w w1 := Touch.ofBelow hb
  refine ⟨acc h1 hb, Nat.le_trans h2 hb.size, F, Fr, h3, h4, fun x hx => ?_, fun x hx => ⟨(h6 x hx).1.touch t (by simp), (h6 x hx).2⟩⟩
  obtain ⟨B, y1, y2⟩ := h5 x hx
  exact ⟨B, KW.touch y1 t (by simp), y2⟩
theorem SX.way (KW : WalkLaws SH SQ) (h : SX SH SQ w2 w gs gr l fs ws) {fv : Value} {k : Way} {B : List Nat} (hb : Below w.heap.size w w1) (hs : SQ w1 fv k gs B) (hB : ∀ q ∈ B, w.heap.size ≤ q) : SX SH SQ w2 w1 gs gr l (fs ++ [(fv, k)]) ws := by
  have g2 := h.2.1
  obtain ⟨h1, h2, F, Fr, h3, h4, h5, h6⟩ := h.below KW hb
  refine ⟨h1, h2, F, Fr, h3, h4, fun x hx => ?_, h6⟩
  rcases List.mem_append.1 hx with z | z
  · exact h5 x z
  · simp at z
    subst z
    exact ⟨B, hs, fun q hq => Nat.le_trans g2 (hB q hq)⟩
theorem SX.list (KW : WalkLaws SH SQ) (h : SX SH SQ w2 w gs gr l fs ws) {A : Option Addr} {c n : Nat} {a : List Item} (hb : Below w.heap.size w w1) (hn : a.length = n) (ho : w1.ownsRow w.heap.size 59 2 (.slice A a.length c) a.length (itemCells a)) : SX SH SQ w2 w1 gs gr l fs (ws ++ [(.slice A n c, a)]) := by
  subst hn
  have g2 := h.2.1
  obtain ⟨h1, h2, F, Fr, h3, h4, h5, h6⟩ := h.below KW hb
  refine ⟨h1, h2, F, Fr, h3, h4, h5, fun x hx => ?_⟩
  rcases List.mem_append.1 hx with z | z
  · exact h6 x z
  · simp at z
    subst z
    exact ⟨⟨A, c, rfl, own_mono ho (Nat.zero_le _)⟩, fun q hq => Nat.le_trans g2 (ho.lt q (mem_blk.1 hq)).1⟩
theorem SX.go (L : ShelfLaws SH) (KW : WalkLaws SH SQ) (h : SX SH SQ w2 w gs gr l fs ws) {fv : Value} {k : Way} (hm : (fv, k) ∈ fs) : ∃ i cap B, fv = .func (.func i) #[] cap ∧ (∀ a w, (callFunc i a).run Tryz.prog w = .ok (.enter i a) w) ∧ (∀ q ∈ B, q < w.heap.size) ∧ ∀ V, Touch [w2.heap.size] w V → WayIn i cap (wayL k l) B V := by
  obtain ⟨h1, h2, F, Fr, h3, h4, h5, h6⟩ := h
  obtain ⟨B, sq, hB⟩ := h5 _ hm
  have sh := L.touch h3 (Touch.ofBelow (F := []) h1) (by simp)
  obtain ⟨i, cap, e, hi, -⟩ := KW.go sq sh
  refine ⟨i, cap, B, e, hi, KW.ltB sq, fun V t => ?_⟩
  obtain ⟨i', cap', e', -, hw⟩ := KW.go (KW.touch sq t (fun q hq z => by have := hB q hq; simp at z; omega)) (L.touch sh t (fun q hq z => by have := L.ltF h3 q hq; simp at z; omega))
  rw [show fv = _ from e] at e'
  injection e' with e1 _ e3
  injection e1 with e1
  subst e1 e3
  exact hw
theorem SX.all (L : ShelfLaws SH) (KW : WalkLaws SH SQ) (h : SX SH SQ w2 w gs gr l fs ws) : Calls Tryz.prog 6 #[.pointer (some ⟨gs, 0, none⟩)] w fun e w' => ∃ i cap, e = .returned (.func (.func i) #[] cap) ∧ SX SH SQ w2 w' gs gr l (fs ++ [(.func (.func i) #[] cap, .all)]) ws ∧ Below w.heap.size w w' := by
  have h0 := h
  obtain ⟨h1, h2, F, Fr, h3, h4, h5, h6⟩ := h
  refine (KW.all (L.touch h3 (Touch.ofBelow (F := []) h1) (by simp))).mono ?_
  rintro e w' ⟨fv, B, rfl, y1, y2, y3⟩
  have z := h0.way KW y3 y1 y2
  obtain ⟨i, cap, -, rfl, -⟩ := z.go L KW (by simp; exact .inr ⟨rfl, rfl⟩)
  exact ⟨i, cap, rfl, z, y3⟩
theorem SX.range (L : ShelfLaws SH) (KW : WalkLaws SH SQ) (h : SX SH SQ w2 w gs gr l fs ws) (f t : ByteArray) (hf : f.size ≤ maxLen) (ht : t.size ≤ maxLen) : Calls Tryz.prog 7 #[.pointer (some ⟨gs, 0, none⟩), .string f, .string t] w fun e w' => ∃ i cap, e = .returned (.func (.func i) #[] cap) ∧ SX SH SQ w2 w' gs gr l (fs ++ [(.func (.func i) #[] cap, .range f t)]) ws ∧ Below w.heap.size w w' := by
  have h0 := h
  obtain ⟨h1, h2, F, Fr, h3, h4, h5, h6⟩ := h
  refine (KW.range f t (L.touch h3 (Touch.ofBelow (F := []) h1) (by simp)) hf ht).mono ?_
  rintro e w' ⟨fv, B, rfl, y1, y2, y3⟩
  have z := h0.way KW y3 y1 y2
  obtain ⟨i, cap, -, rfl, -⟩ := z.go L KW (by simp; exact .inr ⟨rfl, rfl⟩)
  exact ⟨i, cap, rfl, z, y3⟩
theorem SX.arc (L : ShelfLaws SH) (KW : WalkLaws SH SQ) (h : SX SH SQ w2 w gs gr l fs ws) (f t : Nat) (hf : f < 18446744073709551616) (ht : t < 18446744073709551616) : Calls Tryz.prog 9 #[.pointer (some ⟨gs, 0, none⟩), .agg #[.int .u64 (f : Nat), .int .u64 (t : Nat)]] w fun e w' => ∃ i cap, e = .returned (.func (.func i) #[] cap) ∧ SX SH SQ w2 w' gs gr l (fs ++ [(.func (.func i) #[] cap, .arc f t)]) ws ∧ Below w.heap.size w w' := by
  have h0 := h
  obtain ⟨h1, h2, F, Fr, h3, h4, h5, h6⟩ := h
  refine (KW.arc f t (L.touch h3 (Touch.ofBelow (F := []) h1) (by simp)) hf ht).mono ?_
  rintro e w' ⟨fv, B, rfl, y1, y2, y3⟩
  have z := h0.way KW y3 y1 y2
  obtain ⟨i, cap, -, rfl, -⟩ := z.go L KW (by simp; exact .inr ⟨rfl, rfl⟩)
  exact ⟨i, cap, rfl, z, y3⟩
theorem SX.rrange (KW : WalkLaws SH SQ) (h : SX SH SQ w2 w gs gr l fs ws) (hl : l.length ≤ 60) (f t : ByteArray) {a : List Item} (ha : rangeL l f t = a) {n : Nat} (hn : a.length = n) :
    Calls Tryz.prog 8 #[.pointer (some ⟨gr, 0, none⟩), .string f, .string t] w fun e w' => ∃ A c, e = .returned (.slice A (n : Nat) c) ∧ SX SH SQ w2 w' gs gr l fs (ws ++ [(.slice A n c, a)]) ∧ Below w.heap.size w w' := by
  subst ha hn
  have h0 := h
  obtain ⟨h1, h2, F, Fr, h3, h4, h5, h6⟩ := h
  refine (refRange_any gr Fr 200 l f t w (h4.touch (Touch.ofBelow (F := []) h1) (by simp) (by simp)) (by omega)).mono ?_
  rintro e w' ⟨A, c, rfl, y, z⟩
  exact ⟨A, c, rfl, h0.list KW z rfl y, z⟩
theorem SX.rarc (KW : WalkLaws SH SQ) (h : SX SH SQ w2 w gs gr l fs ws) (hl : l.length ≤ 60) (hk : ∀ x ∈ l, x.1.size ≤ 16) (f t : Nat) (hf : f < 18446744073709551616) (ht : t < 18446744073709551616) {a : List Item} (ha : arcL l f t = a) {n : Nat} (hn : a.length = n) :
    Calls Tryz.prog 10 #[.pointer (some ⟨gr, 0, none⟩), .agg #[.int .u64 (f : Nat), .int .u64 (t : Nat)]] w fun e w' => ∃ A c, e = .returned (.slice A (n : Nat) c) ∧ SX SH SQ w2 w' gs gr l fs (ws ++ [(.slice A n c, a)]) ∧ Below w.heap.size w w' := by
  subst ha hn
  have h0 := h
  obtain ⟨h1, h2, F, Fr, h3, h4, h5, h6⟩ := h
  refine (refArc_any gr Fr 200 l f t w (h4.touch (Touch.ofBelow (F := []) h1) (by simp) (by simp)) (by omega) hk hf ht).mono ?_
  rintro e w' ⟨A, c, rfl, y, z⟩
  exact ⟨A, c, rfl, h0.list KW z rfl y, z⟩
/-- one of the ways, and what is asked of it, in whatever world the book has made -/
def Asked (w0 : World) (gk i : Nat) (cap : Array Value) (A : Option Addr) (c n : Nat) (xs : List Item) : Prop :=
  (∀ a w, (callFunc i a).run Tryz.prog w = .ok (.enter i a) w) ∧ (∃ B, (∀ q ∈ B, q < w0.heap.size) ∧ ∀ V, Touch [gk] w0 V → WayIn i cap xs B V) ∧ xs.length = n ∧ n ≤ 400 ∧ ∀ V, Touch [gk] w0 V → Row V (.slice A n c) xs
theorem SX.asked (L : ShelfLaws SH) (KW : WalkLaws SH SQ) (h : SX SH SQ w2 w gs gr l fs ws) {i : Nat} {cap : Array Value} {k : Way} (hm : (.func (.func i) #[] cap, k) ∈ fs) {A : Option Addr} {c n : Nat} {xs : List Item} (hx : wayL k l = xs) (hn : xs.length = n) (h4 : n ≤ 400) (hr : (.slice A n c, xs) ∈ ws ∨ ((k = .all) ∧ w.cell? ⟨gr, 1, none⟩ = some (.slice A n c))) :
    Asked w w2.heap.size i cap A c n xs := by
  obtain ⟨i', cap', B, e, hi, hB, hw⟩ := h.go L KW hm
  injection e with e1 _ e3
  injection e1 with e1
  subst e1 e3
  refine ⟨hi, ⟨B, hB, fun V t => hx ▸ hw V t⟩, hn, h4, fun V t => ?_⟩
  obtain ⟨h1, h2, F, Fr, h3, h4', h5, h6⟩ := h
  rcases hr with hr | ⟨rfl, hc⟩
  · obtain ⟨⟨A', c', e1, hr'⟩, hq⟩ := h6 _ hr
    exact t.row hr' (fun q hq' z => by have := hq q (mem_blk.2 hq'); simp at z; omega)
  · have lg := rs_ltg h4'
    have lF := rs_ltF h4'
    obtain ⟨A', c', ⟨g1, -, g3, -⟩, g6, -⟩ := (h4'.touch (Touch.ofBelow (F := []) h1) (by simp) (by simp)).touch t (fun z => by simp at z; omega) (fun q hq z => by have := lF q hq; simp at z; omega)
    have e1 := (t.cell (p := ⟨gr, 1, none⟩) (by have := h1.size; show gr < _; omega) (fun z => by simp at z; omega)).symm.trans g3
    rw [hc] at e1
    injection e1 with e1
    have hl : l.length = n := by rw [← hn, ← hx]; rfl
    rw [e1, ← hx]
    exact g6
end
end Go.Proofs.YtglinhcldgpphaaGreat
