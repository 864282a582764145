/-
  The book of lists that were kept, beside a world that stays (KB).
-/
import Derived.Test.YtfpoapmbpbkibaaPbApart
namespace Go.Proofs.Ytfpoapmbpbkibaa.Pb
open Go.RowKit Go.Proofs.Ytfpoapmbpbkibaa

/-- what was kept till now, beside a world that stays; ps: lists that wait to be kept; P: blocks that the book has not -/
def KB (w0 w : World) (gk : Nat) (es ps : List (Value × List Int)) (P : List Nat) : Prop :=
  ∃ us va vb, BK w gk va vb es us ∧ Touch [gk] w0 w ∧ (∀ q ∈ BF gk va vb es us, q = gk ∨ w0.heap.size ≤ q) ∧ (∀ p ∈ ps, rowOk w p ∧ ∀ q ∈ blk p.1, w0.heap.size ≤ q ∧ q ∉ BF gk va vb es us ∧ q ∉ P) ∧ ps.Pairwise (fun a b => ∀ q ∈ blk a.1, q ∉ blk b.1) ∧ ∀ q ∈ P, q < w.heap.size ∧ q ∉ BF gk va vb es us
theorem KB.touch {w0 w : World} {gk : Nat} {es ps : List (Value × List Int)} {P : List Nat} (h : KB w0 w gk es ps P) : Touch [gk] w0 w := by
  obtain ⟨us, va, vb, _, t, _⟩ := h
  exact t
theorem KB.below {w0 w w1 : World} {gk : Nat} {es ps : List (Value × List Int)} {P : List Nat} (h : KB w0 w gk es ps P) (hb : Below w.heap.size w w1) : KB w0 w1 gk es ps P := by
  obtain ⟨us, va, vb, h1, h2, h3, h4, h5, h6⟩ := h
  have t : Touch [] w w1 := Touch.ofBelow hb
  exact ⟨us, va, vb, h1.touch t (by simp), h2.trans t (by simp), h3, fun p hp => ⟨(h4 p hp).1.touch t (by simp), (h4 p hp).2⟩, h5, fun q hq => ⟨Nat.lt_of_lt_of_le (h6 q hq).1 hb.size, (h6 q hq).2⟩⟩
/-- a new block that is kept out -/
theorem KB.fresh {w0 w : World} {gk : Nat} {es : List (Value × List Int)} (h : KB w0 w gk es [] []) (o : Obj) : KB w0 (w.alloc o) gk es [] [w.heap.size] := by
  have hb : Below w.heap.size w (w.alloc o) := (Below.refl _ _).alloc (Nat.le_refl _) _
  have lt : ∀ us va vb, BK w gk va vb es us → w.heap.size ∉ BF gk va vb es us := fun us va vb h1 z => by have := h1.ltF _ z; omega
  obtain ⟨us, va, vb, h1, h2, h3, h4, h5, h6⟩ := h
  have t : Touch [] w (w.alloc o) := Touch.ofBelow hb
  refine ⟨us, va, vb, h1.touch t (by simp), h2.trans t (by simp), h3, by simp, List.Pairwise.nil, fun q hq => ?_⟩
  simp at hq
  subst hq
  exact ⟨by simp, lt us va vb h1⟩
theorem KB.free {w0 w : World} {gk : Nat} {es : List (Value × List Int)} {P : List Nat} (h : KB w0 w gk es [] P) : KB w0 w gk es [] [] := by
  obtain ⟨us, va, vb, h1, h2, h3, h4, h5, h6⟩ := h
  exact ⟨us, va, vb, h1, h2, h3, by simp, List.Pairwise.nil, by simp⟩
theorem KB.push {w0 w w1 : World} {gk : Nat} {es ps : List (Value × List Int)} {P : List Nat} (h : KB w0 w gk es ps P) (hb : Below w.heap.size w w1) {A : Option Addr} {c n : Nat} {l : List Int} (hn : l.length = n) (ho : w1.ownsRow w.heap.size 22 1 (.slice A l.length c) l.length (ptC l)) : KB w0 w1 gk es (ps ++ [(.slice A n c, l)]) P := by
  subst hn
  obtain ⟨us, va, vb, h1, h2, h3, h4, h5, h6⟩ := h
  have t : Touch [] w w1 := Touch.ofBelow hb
  refine ⟨us, va, vb, h1.touch t (by simp), h2.trans t (by simp), h3, fun p hp => ?_, List.pairwise_append.2 ⟨h5, List.pairwise_singleton _ _, fun a ha b hb' q hq hq' => ?_⟩, fun q hq => ⟨Nat.lt_of_lt_of_le (h6 q hq).1 hb.size, (h6 q hq).2⟩⟩
  · rcases List.mem_append.1 hp with z | z
    · exact ⟨(h4 p z).1.touch t (by simp), (h4 p z).2⟩
    · simp at z
      subst z
      refine ⟨⟨A, c, rfl, own_mono ho (Nat.zero_le _)⟩, fun q hq => ?_⟩
      have y := (ho.lt q (mem_blk.1 hq)).1
      refine ⟨Nat.le_trans h2.size y, fun z => ?_, fun z => ?_⟩
      · have := h1.ltF q z
        omega
      · have := (h6 q z).1
        omega
  · simp at hb'
    subst hb'
    have y := (ho.lt q (mem_blk.1 hq')).1
    have := (h4 a ha).1.lt hq
    omega
theorem KB.book {w0 w : World} {gk : Nat} {es ps : List (Value × List Int)} {P : List Nat} {A : Option Addr} {c n : Nat} {l : List Int} (h : KB w0 w gk es ((.slice A n c, l) :: ps) P) (hn : l.length = n) (he : es.length < 250) (hl : n ≤ 100000) :
    Calls Try.prog 13 #[.pointer (some ⟨gk, 0, none⟩), .slice A n c] w fun e w' => e = .returned (.tuple #[]) ∧ KB w0 w' gk (es ++ [(.slice A n c, l)]) ps P ∧ ∃ G, Touch G w w' ∧ ∀ q ∈ P, q ∉ G := by
  subst hn
  obtain ⟨us, va, vb, h1, h2, h3, h4, h5, h8⟩ := h
  obtain ⟨⟨A', c', e1, hr⟩, hb⟩ := h4 _ List.mem_cons_self
  obtain ⟨h6, h7⟩ := List.pairwise_cons.1 h5
  refine (bookPoints_any gk va vb es us A c l w h1 hr (fun q hq => ?_) he hl).mono ?_
  · have z := (hb q hq).2.1
    unfold BF at z
    simp only [List.mem_cons, List.mem_append, not_or] at z
    exact ⟨z.1, z.2.1, z.2.2.1, z.2.2.2.1⟩
  · rintro e' w' ⟨rfl, va', vb', u, k1, k2, k3⟩
    have inB : ∀ q ∈ gk :: (blk va ++ blk vb), q ∈ BF gk va vb es us := fun q hq => by
      unfold BF
      simp at hq ⊢
      rcases hq with z | z | z
      · simp [z]
      · simp [z]
      · simp [z]
    refine ⟨rfl, ⟨us ++ [(u, l)], va', vb', k1, h2.trans k2 (fun q hq => (h3 q (inB q hq)).imp (fun z => by simp [z]) id), fun q hq => ?_, fun p hp => ?_, h7, fun q hq => ⟨Nat.lt_of_lt_of_le (h8 q hq).1 k2.size, fun z => ?_⟩⟩, _, k2, fun q hq z => (h8 q hq).2 (inB q z)⟩
    · rcases k3 q hq with z | z | z
      · exact h3 q z
      · exact .inr (hb q z).1
      · exact .inr (Nat.le_trans h2.size z)
    · obtain ⟨y1, y2⟩ := h4 p (List.mem_cons_of_mem _ hp)
      refine ⟨y1.touch k2 (fun q hq z => (y2 q hq).2.1 (inB q z)), fun q hq => ⟨(y2 q hq).1, fun z => ?_, (y2 q hq).2.2⟩⟩
      rcases k3 q z with z | z | z
      · exact (y2 q hq).2.1 z
      · exact h6 p hp q z hq
      · have := y1.lt hq
        omega
    · rcases k3 q z with z | z | z
      · exact (h8 q hq).2 z
      · exact (hb q z).2.2 hq
      · have := (h8 q hq).1
        omega
/-- what is kept lies as it lay -/
theorem KB.row {w0 w : World} {gk : Nat} {es ps : List (Value × List Int)} {P : List Nat} (h : KB w0 w gk es ps P) {A : Option Addr} {c n : Nat} {l : List Int} (hx : (.slice A n c, l) ∈ es ++ ps) : Row w (.slice A n c) l := by
  obtain ⟨us, va, vb, h1, h2, h3, h4, h5⟩ := h
  have z : rowOk w (.slice A n c, l) := by
    rcases List.mem_append.1 hx with y | y
    · exact h1.rows _ y
    · exact (h4 _ y).1
  obtain ⟨A', c', e1, hr⟩ := z
  exact hr
theorem KB.apart {w0 w : World} {gk : Nat} {es : List (Value × List Int)} {P : List Nat} (h : KB w0 w gk es [] P) (he : es.length ≤ 250) (hl : ∀ x ∈ es, x.2.length ≤ 90000) :
    Calls Try.prog 20 #[.pointer (some ⟨gk, 0, none⟩)] w fun e w' => e = .returned (.bool true) ∧ Touch [gk] w0 w' := by
  obtain ⟨us, va, vb, h1, h2, h3, h4, h5⟩ := h
  refine (apart_any gk va vb es us w h1 he hl).mono ?_
  rintro e w' ⟨rfl, t⟩
  exact ⟨rfl, h2.trans t (fun q hq => (h3 q (by unfold BF; simp [hq])).imp (fun z => by simp [z]) id)⟩
theorem bk_made (W : World) : BK (W.alloc (.cells #[.slice none 0 0, .slice none 0 0, .slice none 0 0, .slice none 0 0, .slice none 0 0, .slice none 0 0, .slice none 0 0, .slice none 0 0, .slice none 0 0, .slice none 0 0, .slice none 0 0, .slice none 0 0, .slice none 0 0, .slice none 0 0] 35)) W.heap.size (.slice none 0 0) (.slice none 0 0) [] [] where
  lt := by simp
  none j hj h6 h7 := by
    have h : j = 0 ∨ j = 1 ∨ j = 2 ∨ j = 3 ∨ j = 6 ∨ j = 7 ∨ j = 8 ∨ j = 9 ∨ j = 10 ∨ j = 11 ∨ j = 12 ∨ j = 13 := by omega
    rcases h with rfl | rfl | rfl | rfl | rfl | rfl | rfl | rfl | rfl | rfl | rfl | rfl <;> go_simp
  c6 := by go_simp
  c7 := by go_simp
  f6 := by go_simp
  f7 := by go_simp
  own6 := World.ownsRow_nil _ _ _ _
  own7 := World.ownsRow_nil _ _ _ _
  rows x hx := by cases hx
  copies x hx := by cases hx
  same := rfl
  apart := by simp [blk, fps, Value.ownBlock]
  beside q hq := by cases hq
theorem KB.start {w2 w0 : World} (hb : Below (w2.heap.size + 1) (w2.alloc (.cells #[.slice none 0 0, .slice none 0 0, .slice none 0 0, .slice none 0 0, .slice none 0 0, .slice none 0 0, .slice none 0 0, .slice none 0 0, .slice none 0 0, .slice none 0 0, .slice none 0 0, .slice none 0 0, .slice none 0 0, .slice none 0 0] 35)) w0) : KB w0 w0 w2.heap.size [] [] [] := by
  refine ⟨[], _, _, (bk_made w2).touch (Touch.ofBelow (F := []) (by simpa using hb)) (by simp), (Touch.refl [] _).mono (by simp), fun q hq => ?_, by simp, List.Pairwise.nil, by simp⟩
  simp [BF, blk, fps, Value.ownBlock] at hq
  exact .inl hq
theorem KB.push2 {w0 w w1 : World} {gk : Nat} {es ps : List (Value × List Int)} {P : List Nat} (h : KB w0 w gk es ps P) (hb : Below w.heap.size w w1) {A B : Option Addr} {c d : Nat} {l m : List Int}
    (ho : w1.ownsRow w.heap.size 22 1 (.slice A l.length c) l.length (ptC l)) (hp : w1.ownsRow w.heap.size 22 1 (.slice B m.length d) m.length (ptC m))
    (hd : ∀ q, (Value.slice A l.length c).ownBlock = some q → (Value.slice B m.length d).ownBlock ≠ some q) : KB w0 w1 gk es (ps ++ [(.slice A l.length c, l), (.slice B m.length d, m)]) P := by
  obtain ⟨us, va, vb, h1, h2, h3, h4, h5, h6⟩ := h
  have t : Touch [] w w1 := Touch.ofBelow hb
  refine ⟨us, va, vb, h1.touch t (by simp), h2.trans t (by simp), h3, fun p hp' => ?_, List.pairwise_append.2 ⟨h5, ?_, fun a ha b hb' q hq hq' => ?_⟩, fun q hq => ⟨Nat.lt_of_lt_of_le (h6 q hq).1 hb.size, (h6 q hq).2⟩⟩
  · rcases List.mem_append.1 hp' with z | z
    · exact ⟨(h4 p z).1.touch t (by simp), (h4 p z).2⟩
    · have out : ∀ q, w.heap.size ≤ q → w0.heap.size ≤ q ∧ q ∉ BF gk va vb es us ∧ q ∉ P := fun q y => by
        refine ⟨Nat.le_trans h2.size y, fun z => ?_, fun z => ?_⟩
        · have := h1.ltF q z
          omega
        · have := (h6 q z).1
          omega
      rcases List.mem_cons.1 z with z | z
      · subst z
        exact ⟨⟨A, c, rfl, own_mono ho (Nat.zero_le _)⟩, fun q hq => out q (ho.lt q (mem_blk.1 hq)).1⟩
      · rcases List.mem_cons.1 z with z | z
        · subst z
          exact ⟨⟨B, d, rfl, own_mono hp (Nat.zero_le _)⟩, fun q hq => out q (hp.lt q (mem_blk.1 hq)).1⟩
        · cases z
  · refine List.pairwise_cons.2 ⟨fun b hb' q hq hq' => ?_, List.pairwise_singleton _ _⟩
    rcases List.mem_cons.1 hb' with z | z
    · subst z
      exact hd q (mem_blk.1 hq) (mem_blk.1 hq')
    · cases z
  · have y : w.heap.size ≤ q := by
      rcases List.mem_cons.1 hb' with z | z
      · subst z
        exact (ho.lt q (mem_blk.1 hq')).1
      · rcases List.mem_cons.1 z with z | z
        · subst z
          exact (hp.lt q (mem_blk.1 hq')).1
        · cases z
    have := (h4 a ha).1.lt hq
    omega
/-- blocks that are new, and kept out of the book -/
theorem KB.out_ {w0 w w1 : World} {gk : Nat} {es ps : List (Value × List Int)} {P Q : List Nat} (h : KB w0 w gk es ps P) (hb : Below w.heap.size w w1) (hQ : ∀ q ∈ Q, w.heap.size ≤ q ∧ q < w1.heap.size) : KB w0 w1 gk es ps (Q ++ P) := by
  obtain ⟨us, va, vb, h1, h2, h3, h4, h5, h6⟩ := h
  have t : Touch [] w w1 := Touch.ofBelow hb
  have lt := h1.ltF
  refine ⟨us, va, vb, h1.touch t (by simp), h2.trans t (by simp), h3, fun p hp => ⟨(h4 p hp).1.touch t (by simp), fun q hq => ⟨((h4 p hp).2 q hq).1, ((h4 p hp).2 q hq).2.1, fun z => ?_⟩⟩, h5, fun q hq => ?_⟩
  · rcases List.mem_append.1 z with z | z
    · have := (h4 p hp).1.lt hq
      have := (hQ q z).1
      omega
    · exact ((h4 p hp).2 q hq).2.2 z
  · rcases List.mem_append.1 hq with z | z
    · refine ⟨(hQ q z).2, fun y => ?_⟩
      have := lt q y
      have := (hQ q z).1
      omega
    · exact ⟨Nat.lt_of_lt_of_le (h6 q z).1 hb.size, (h6 q z).2⟩
end Go.Proofs.Ytfpoapmbpbkibaa.Pb
