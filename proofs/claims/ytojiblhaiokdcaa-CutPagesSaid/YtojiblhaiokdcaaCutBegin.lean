/-
  Two shelves of the call's own side by side, apart from blocks P that stay (S2); what Out, In and the rest of a shelf's calls make of it.
  The first call of stage 6's statements.
-/
import Derived.Test.YtojiblhaiokdcaaCutChunkz
import Derived.Test.YtojiblhaiokdcaaCutPagez
import Derived.Test.YtojiblhaiokdcaaFilled
namespace Go.Proofs.Ytojiblhaiokdcaa
open Go.RowKit

/-- blocks of P stay -/
def Kp (P : List Nat) (w w' : World) : Prop := ∃ G, Touch G w w' ∧ ∀ q ∈ P, q ∉ G
theorem Kp.refl (P : List Nat) (w : World) : Kp P w w := ⟨[], Touch.refl _ _, by simp⟩
theorem Kp.below {P : List Nat} {w w' : World} (h : Below w.heap.size w w') : Kp P w w' := ⟨[], Touch.ofBelow h, by simp⟩
theorem Kp.trans {P : List Nat} {a b c : World} (h : Kp P a b) (k : Kp P b c) : Kp P a c := by
  obtain ⟨G, t, n⟩ := h
  obtain ⟨H, u, m⟩ := k
  exact ⟨G ++ H, (t.mono (fun x hx => by simp [hx])).trans u (fun x hx => .inl (by simp [hx])), fun q hq z => (List.mem_append.1 z).elim (n q hq) (m q hq)⟩
theorem Kp.less {P Q : List Nat} {a b : World} (h : Kp P a b) (hQ : ∀ q ∈ Q, q ∈ P) : Kp Q a b := by
  obtain ⟨G, t, n⟩ := h
  exact ⟨G, t, fun q hq => n q (hQ q hq)⟩
theorem Kp.row {P : List Nat} {a b : World} (h : Kp P a b) {base e size n : Nat} {v : Value} {xs : List Value} (hr : a.ownsRow base e size v n xs) (hP : ∀ q, v.ownBlock = some q → q ∈ P) : b.ownsRow base e size v n xs := by
  obtain ⟨G, t, n⟩ := h
  exact t.row hr (fun q hq => n q (hP q hq))
theorem Kp.rs {P : List Nat} {a b : World} (h : Kp P a b) {g : Nat} {F : List Nat} {most : Int} {l : List Item} (hr : RS a g F most l) (hg : g ∈ P) (hF : ∀ q ∈ F, q ∈ P) : RS b g F most l := by
  obtain ⟨G, t, n⟩ := h
  exact hr.touch t (n g hg) (fun q hq => n q (hF q hq))
theorem Kp.size {P : List Nat} {a b : World} (h : Kp P a b) : a.heap.size ≤ b.heap.size := by
  obtain ⟨G, t, n⟩ := h
  exact t.size

/-- a row that stays is read by what writes a shelf -/
theorem rowOut_of {w : World} {F : List Nat} {base c : Nat} {A : Option Addr} {ms : List Item} (hr : w.ownsRow base 39 2 (.slice A ms.length c) ms.length (itemCells ms)) (hF : ∀ q, (Value.slice A ms.length c).ownBlock = some q → q ∉ F) : RowOut w F A ms := by
  rcases hr.2 with ⟨h0, h1⟩ | ⟨g, cap, cur, h0, _⟩
  · exact ⟨0, 0, fun i hi => by omega⟩
  · injection h0 with e1 _ e3
    subst e1 e3
    refine ⟨g, 0, fun i hi => ⟨rfl, (hr.lt g rfl).2, hF g rfl, ?_, ?_⟩⟩
    · rw [Nat.zero_add]
      exact (hr.cellAt (i * 2) (by omega)).trans (itemCells_get0 ms i hi)
    · rw [Nat.zero_add]
      exact (hr.cellAt (i * 2 + 1) (by omega)).trans (itemCells_get1 ms i hi)
/-- one shelf of the call's own, apart from blocks P that stay -/
def S1 (W w : World) (P : List Nat) (g : Nat) (m : Int) (l : List Item) : Prop :=
  Below W.heap.size W w ∧ ∃ F, SH w g m l F ∧ (∀ q ∈ F, W.heap.size ≤ q ∧ q ∉ P) ∧ ∀ q ∈ P, q < w.heap.size
section
variable {W w w1 : World} {P : List Nat} {g : Nat} {m : Int} {l l' : List Item}
theorem S1.below (h : S1 W w P g m l) (hb : Below w.heap.size w w1) : S1 W w1 P g m l := by
  obtain ⟨a, F, b, d, f⟩ := h
  exact ⟨acc a hb, F, b.touch (Touch.ofBelow (F := []) hb) (by simp), d, fun q hq => Nat.lt_of_lt_of_le (f q hq) hb.size⟩
theorem S1.rising (h : S1 W w P g m l) : Rising l := by
  obtain ⟨_, F, b, _⟩ := h
  exact shelfLaws.rising b
theorem S1.step {F : List Nat} (a : Below W.heap.size W w) (d : ∀ q ∈ F, W.heap.size ≤ q ∧ q ∉ P) (f : ∀ q ∈ P, q < w.heap.size) (h : CP SH w w1 F g m l') : S1 W w1 P g m l' ∧ Kp P w w1 := by
  obtain ⟨t, F3, k, hk⟩ := h
  refine ⟨⟨Touch.acc a t (fun q hq => (d q hq).1), F3, k, fun q hq => ?_, fun q hq => Nat.lt_of_lt_of_le (f q hq) t.size⟩, F, t, fun q hq z => (d q z).2 hq⟩
  rcases hk q hq with z | z
  · exact d q z
  · exact ⟨Nat.le_trans a.size z, fun y => by have := f q y; omega⟩
/-- one more that stays -/
theorem S1.more {Q : List Nat} {F : List Nat} (a : Below W.heap.size W w) (b : SH w g m l F) (d : ∀ q ∈ F, W.heap.size ≤ q ∧ q ∉ P) (f : ∀ q ∈ P, q < w.heap.size) (h1 : ∀ q ∈ Q, q < w.heap.size ∧ q ∉ F) : S1 W w (P ++ Q) g m l :=
  ⟨a, F, b, fun q hq => ⟨(d q hq).1, fun z => (List.mem_append.1 z).elim (d q hq).2 (fun y => (h1 q y).2 hq)⟩, fun q hq => (List.mem_append.1 hq).elim (f q) (fun y => (h1 q y).1)⟩
/-- a list that was answered stays -/
theorem S1.keep (h : S1 W w P g m l) {v : Value} {size n : Nat} {e : TypeId} {xs : List Value} (hb : Below w.heap.size w w1) (hr : w1.ownsRow w.heap.size e size v n xs) : S1 W w1 (P ++ v.ownBlock.toList) g m l := by
  obtain ⟨a, F, b, d, f⟩ := h
  refine S1.more (acc a hb) (b.touch (Touch.ofBelow (F := []) hb) (by simp)) d (fun q hq => Nat.lt_of_lt_of_le (f q hq) hb.size) (fun q hq => ?_)
  have := hr.lt q (by simpa using hq)
  exact ⟨this.2, fun z => by have := b.ltF q z; omega⟩
theorem S1.less {Q : List Nat} (h : S1 W w P g m l) (hQ : ∀ q ∈ Q, q ∈ P) : S1 W w Q g m l := by
  obtain ⟨a, F, b, d, f⟩ := h
  exact ⟨a, F, b, fun q hq => ⟨(d q hq).1, fun z => (d q hq).2 (hQ q z)⟩, fun q hq => f q (hQ q hq)⟩
theorem S1.out (h : S1 W w P g m l) (f t : Nat) (hf : f < 18446744073709551616) (ht : t < 18446744073709551616) {a left : List Item} (ha : arcL l f t = a) (hl : leftL l f t = left) :
    Calls Try.prog 12 #[.pointer (some ⟨g, 0, none⟩), .agg #[.int .u64 (f : Nat), .int .u64 (t : Nat)]] w fun e w' =>
      ∃ A c, e = .returned (.slice A a.length c) ∧ w'.ownsRow w.heap.size 39 2 (.slice A a.length c) a.length (itemCells a) ∧ S1 W w' (P ++ (Value.slice A a.length c).ownBlock.toList) g m left ∧ Kp P w w' := by
  subst ha hl
  obtain ⟨x, F, b, d, u⟩ := h
  refine (out_any b f t hf ht).mono ?_
  rintro e' w' ⟨A, cp, F3, rfl, h1, h2, h3, h4, h5⟩
  rw [delsN_arc (shelfLaws.rising b)] at h2
  obtain ⟨⟨y1, y2⟩, y3⟩ := S1.step (P := P) x d u ⟨h3, F3, h2, h4⟩
  refine ⟨A, cp, rfl, h1, S1.more y1 h2 (fun q hq => ?_) (fun q hq => Nat.lt_of_lt_of_le (u q hq) h3.size) (fun q hq => ?_), y3⟩
  · rcases h4 q hq with z | z
    · exact d q z
    · exact ⟨Nat.le_trans x.size z, fun y => by have := u q y; omega⟩
  · have hq' : (Value.slice A (arcL l f t).length cp).ownBlock = some q := by simpa using hq
    exact ⟨(h1.lt q hq').2, fun z => h5 q z hq'⟩
theorem S1.cin (h : S1 W w P g m l) {base c : Nat} {A : Option Addr} {ms : List Item} (hr : w.ownsRow base 39 2 (.slice A ms.length c) ms.length (itemCells ms)) (hP : ∀ q, (Value.slice A ms.length c).ownBlock = some q → q ∈ P) (hs : ∀ x ∈ ms, x.1.size ≤ maxLen ∧ x.2.size ≤ maxLen)
    {r : Int} {l2 : List Item} (hE : putsE m l ms = r) (hS : inS m l ms = l2) :
    Calls Try.prog 13 #[.pointer (some ⟨g, 0, none⟩), .slice A ms.length c] w fun e w' => e = .returned (.int .i64 r) ∧ S1 W w' P g m l2 ∧ Kp P w w' := by
  subst hE hS
  obtain ⟨x, F, b, d, u⟩ := h
  have hlen : ms.length ≤ 9223372036854775807 := by
    rcases hr.2 with ⟨_, z⟩ | ⟨_, cap, _, _, _, _, z1, z2, _⟩
    · omega
    · unfold maxLen at z2; omega
  refine (cutIn_any shelfLaws b A c ms (rowOut_of hr (fun q hq z => (d q z).2 (hP q hq))) hlen hs).mono ?_
  rintro e' w' ⟨rfl, h1⟩
  exact ⟨rfl, S1.step x d u h1⟩
theorem S1.items (h : S1 W w P g m l) : Calls Try.prog 22 #[.pointer (some ⟨g, 0, none⟩)] w fun e w' =>
    ∃ A c, e = .returned (.slice A l.length c) ∧ w'.ownsRow w.heap.size 39 2 (.slice A l.length c) l.length (itemCells l) ∧ S1 W w' (P ++ (Value.slice A l.length c).ownBlock.toList) g m l ∧ Below w.heap.size w w' := by
  have h0 := h
  obtain ⟨x, F, b, _⟩ := h
  refine (shelfLaws.items b).mono ?_
  rintro e' w' ⟨A, cp, rfl, h1, h2⟩
  exact ⟨A, cp, rfl, h1, h0.keep h2 h1, h2⟩
theorem S1.len (h : S1 W w P g m l) {n : Nat} (hn : l.length = n) : Calls Try.prog 14 #[.pointer (some ⟨g, 0, none⟩)] w fun e w' =>
    e = .returned (.int .i64 (n : Nat)) ∧ S1 W w' P g m l ∧ Below w.heap.size w w' := by
  subst hn
  have h0 := h
  obtain ⟨x, F, b, _⟩ := h
  refine (shelfLaws.len b).mono ?_
  rintro e' w' ⟨rfl, h2⟩
  exact ⟨rfl, h0.below h2, h2⟩
theorem S1.page (h : S1 W w P g m l) (f t : ByteArray) (n : Int) (h0 : -9223372036854775808 ≤ n) (h1 : n ≤ 9223372036854775807) {xs : List Item} (hx : rangeL l f t = xs) : Calls Try.prog 18 #[.pointer (some ⟨g, 0, none⟩), .string f, .string t, .int .i64 n] w fun e w' =>
    PagePost w xs n.toNat e w' ∧ S1 W w' P g m l := by
  subst hx
  have hh := h
  obtain ⟨x, F, b, _⟩ := h
  refine (page_src (srcOfM b) f t n h0 h1).mono ?_
  rintro e' w' ⟨A, cp, rfl, h3, h4⟩
  exact ⟨⟨A, cp, rfl, h3, h4⟩, hh.below h4⟩
/-- a filled shelf -/
theorem S1.of {gs gr : Nat} (h : OSR SH W w [] gs l gr l) : ∃ Fr, S1 W w (gr :: Fr) gs 200 l ∧ RS w gr Fr 200 l := by
  obtain ⟨a, F, Fr, b, c, d, e, _, _⟩ := h
  refine ⟨Fr, ⟨a, F, b, fun q hq => ⟨(d q hq).1, fun z => ?_⟩, fun q hq => ?_⟩, c⟩
  · rcases List.mem_cons.1 z with y | y
    · exact (d q hq).2.1 y
    · exact (d q hq).2.2.1 y
  · rcases List.mem_cons.1 hq with y | y
    · have := rs_ltg c; omega
    · have := rs_ltF c q y; omega
end

/-- two shelves of the call's own, apart from one another and from P -/
def S2 (W w : World) (P : List Nat) (g1 : Nat) (m1 : Int) (l1 : List Item) (g2 : Nat) (m2 : Int) (l2 : List Item) : Prop :=
  Below W.heap.size W w ∧ ∃ F1 F2, SH w g1 m1 l1 F1 ∧ SH w g2 m2 l2 F2 ∧ (∀ q ∈ F1, W.heap.size ≤ q ∧ q ∉ F2 ∧ q ∉ P) ∧ (∀ q ∈ F2, W.heap.size ≤ q ∧ q ∉ P) ∧ ∀ q ∈ P, q < w.heap.size
section
variable {W w w1 : World} {P : List Nat} {g1 g2 : Nat} {m1 m2 : Int} {l1 l2 l3 : List Item}
theorem S2.swap (h : S2 W w P g1 m1 l1 g2 m2 l2) : S2 W w P g2 m2 l2 g1 m1 l1 := by
  obtain ⟨a, F1, F2, b, c, d, e, f⟩ := h
  exact ⟨a, F2, F1, c, b, fun q hq => ⟨(e q hq).1, fun z => (d q z).2.1 hq, (e q hq).2⟩, fun q hq => ⟨(d q hq).1, (d q hq).2.2⟩, f⟩
theorem S2.below (h : S2 W w P g1 m1 l1 g2 m2 l2) (hb : Below w.heap.size w w1) : S2 W w1 P g1 m1 l1 g2 m2 l2 := by
  obtain ⟨a, F1, F2, b, c, d, e, f⟩ := h
  have t : Touch [] w w1 := Touch.ofBelow hb
  exact ⟨acc a hb, F1, F2, b.touch t (by simp), c.touch t (by simp), d, e, fun q hq => Nat.lt_of_lt_of_le (f q hq) hb.size⟩
/-- the first one was written -/
theorem S2.step {F1 F2 : List Nat} (a : Below W.heap.size W w) (c : SH w g2 m2 l2 F2) (d : ∀ q ∈ F1, W.heap.size ≤ q ∧ q ∉ F2 ∧ q ∉ P) (e : ∀ q ∈ F2, W.heap.size ≤ q ∧ q ∉ P) (f : ∀ q ∈ P, q < w.heap.size)
    (h : CP SH w w1 F1 g1 m1 l3) : S2 W w1 P g1 m1 l3 g2 m2 l2 ∧ Kp P w w1 := by
  obtain ⟨t, F3, k, hk⟩ := h
  have lt2 := c.ltF
  have hF3 : ∀ q ∈ F3, W.heap.size ≤ q ∧ q ∉ F2 ∧ q ∉ P := fun q hq => by
    rcases hk q hq with z | z
    · exact d q z
    · exact ⟨Nat.le_trans a.size z, fun y => by have := lt2 q y; omega, fun y => by have := f q y; omega⟩
  refine ⟨⟨Touch.acc a t (fun q hq => (d q hq).1), F3, F2, k, c.touch t (fun q hq z => (d q z).2.1 hq), hF3, e, fun q hq => Nat.lt_of_lt_of_le (f q hq) t.size⟩, F1, t, fun q hq z => (d q z).2.2 hq⟩
/-- one more that stays -/
theorem S2.more {Q : List Nat} {F1 F2 : List Nat} (a : Below W.heap.size W w) (b : SH w g1 m1 l1 F1) (c : SH w g2 m2 l2 F2) (d : ∀ q ∈ F1, W.heap.size ≤ q ∧ q ∉ F2 ∧ q ∉ P) (e : ∀ q ∈ F2, W.heap.size ≤ q ∧ q ∉ P) (f : ∀ q ∈ P, q < w.heap.size)
    (h1 : ∀ q ∈ Q, q < w.heap.size ∧ q ∉ F1 ∧ q ∉ F2) : S2 W w (P ++ Q) g1 m1 l1 g2 m2 l2 :=
  ⟨a, F1, F2, b, c, fun q hq => ⟨(d q hq).1, (d q hq).2.1, fun z => (List.mem_append.1 z).elim (d q hq).2.2 (fun y => (h1 q y).2.1 hq)⟩, fun q hq => ⟨(e q hq).1, fun z => (List.mem_append.1 z).elim (e q hq).2 (fun y => (h1 q y).2.2 hq)⟩, fun q hq => (List.mem_append.1 hq).elim (f q) (fun y => (h1 q y).1)⟩
theorem S2.out1 (h : S2 W w P g1 m1 l1 g2 m2 l2) (f t : Nat) (hf : f < 18446744073709551616) (ht : t < 18446744073709551616) {a left : List Item} (ha : arcL l1 f t = a) (hl : leftL l1 f t = left) :
    Calls Try.prog 12 #[.pointer (some ⟨g1, 0, none⟩), .agg #[.int .u64 (f : Nat), .int .u64 (t : Nat)]] w fun e w' =>
      ∃ A c, e = .returned (.slice A a.length c) ∧ w'.ownsRow w.heap.size 39 2 (.slice A a.length c) a.length (itemCells a) ∧ S2 W w' (P ++ (Value.slice A a.length c).ownBlock.toList) g1 m1 left g2 m2 l2 ∧ Kp P w w' := by
  subst ha hl
  obtain ⟨x, F1, F2, b, c, d, e, u⟩ := h
  refine (out_any b f t hf ht).mono ?_
  rintro e' w' ⟨A, cp, F3, rfl, h1, h2, h3, h4, h5⟩
  rw [delsN_arc (shelfLaws.rising b)] at h2
  have lt2 := c.ltF
  obtain ⟨⟨y1, y2⟩, y3⟩ := S2.step (P := P) x c d e u ⟨h3, F3, h2, h4⟩
  have hF3 : ∀ q ∈ F3, W.heap.size ≤ q ∧ q ∉ F2 ∧ q ∉ P := fun q hq => by
    rcases h4 q hq with z | z
    · exact d q z
    · exact ⟨Nat.le_trans x.size z, fun y => by have := lt2 q y; omega, fun y => by have := u q y; omega⟩
  refine ⟨A, cp, rfl, h1, S2.more y1 h2 (c.touch h3 (fun q hq z => (d q z).2.1 hq)) hF3 e (fun q hq => Nat.lt_of_lt_of_le (u q hq) h3.size) (fun q hq => ?_), y3⟩
  have hq' : (Value.slice A (arcL l1 f t).length cp).ownBlock = some q := by simpa using hq
  have := h1.lt q hq'
  exact ⟨this.2, fun z => h5 q z hq', fun z => by have := lt2 q z; omega⟩
theorem S2.in1 (h : S2 W w P g1 m1 l1 g2 m2 l2) {base c : Nat} {A : Option Addr} {ms : List Item} (hr : w.ownsRow base 39 2 (.slice A ms.length c) ms.length (itemCells ms)) (hP : ∀ q, (Value.slice A ms.length c).ownBlock = some q → q ∈ P) (hs : ∀ x ∈ ms, x.1.size ≤ maxLen ∧ x.2.size ≤ maxLen)
    {r : Int} {l' : List Item} (hE : putsE m1 l1 ms = r) (hS : inS m1 l1 ms = l') :
    Calls Try.prog 13 #[.pointer (some ⟨g1, 0, none⟩), .slice A ms.length c] w fun e w' => e = .returned (.int .i64 r) ∧ S2 W w' P g1 m1 l' g2 m2 l2 ∧ Kp P w w' := by
  subst hE hS
  obtain ⟨x, F1, F2, b, cc, d, e, u⟩ := h
  have hlen : ms.length ≤ 9223372036854775807 := by
    rcases hr.2 with ⟨_, z⟩ | ⟨_, cap, _, _, _, _, z1, z2, _⟩
    · omega
    · unfold maxLen at z2; omega
  refine (cutIn_any shelfLaws b A c ms (rowOut_of hr (fun q hq z => (d q z).2.2 (hP q hq))) hlen hs).mono ?_
  rintro e' w' ⟨rfl, h1⟩
  exact ⟨rfl, S2.step x cc d e u h1⟩
theorem S2.items1 (h : S2 W w P g1 m1 l1 g2 m2 l2) : Calls Try.prog 22 #[.pointer (some ⟨g1, 0, none⟩)] w fun e w' =>
    ∃ A c, e = .returned (.slice A l1.length c) ∧ w'.ownsRow w.heap.size 39 2 (.slice A l1.length c) l1.length (itemCells l1) ∧ S2 W w' P g1 m1 l1 g2 m2 l2 ∧ Below w.heap.size w w' := by
  have h0 := h
  obtain ⟨x, F1, F2, b, c, d, e, u⟩ := h
  refine (shelfLaws.items b).mono ?_
  rintro e' w' ⟨A, cp, rfl, h1, h2⟩
  exact ⟨A, cp, rfl, h1, h0.below h2, h2⟩
theorem S2.len1 (h : S2 W w P g1 m1 l1 g2 m2 l2) {n : Nat} (hn : l1.length = n) : Calls Try.prog 14 #[.pointer (some ⟨g1, 0, none⟩)] w fun e w' =>
    e = .returned (.int .i64 (n : Nat)) ∧ S2 W w' P g1 m1 l1 g2 m2 l2 ∧ Below w.heap.size w w' := by
  subst hn
  have h0 := h
  obtain ⟨x, F1, F2, b, c, d, e, u⟩ := h
  refine (shelfLaws.len b).mono ?_
  rintro e' w' ⟨rfl, h2⟩
  exact ⟨rfl, h0.below h2, h2⟩
theorem S2.get1 (h : S2 W w P g1 m1 l1 g2 m2 l2) (k : ByteArray) {v : ByteArray} {b : Bool} (hv : getN l1 k = v) (hb : hasN l1 k = b) : Calls Try.prog 15 #[.pointer (some ⟨g1, 0, none⟩), .string k] w fun e w' =>
    e = .returned (.tuple #[.string v, .bool b]) ∧ S2 W w' P g1 m1 l1 g2 m2 l2 ∧ Below w.heap.size w w' := by
  subst hv hb
  have h0 := h
  obtain ⟨x, F1, F2, b, c, d, e, u⟩ := h
  refine (shelfLaws.get k b).mono ?_
  rintro e' w' ⟨rfl, h2⟩
  exact ⟨rfl, h0.below h2, h2⟩
theorem S2.page1 (h : S2 W w P g1 m1 l1 g2 m2 l2) (f t : ByteArray) (n : Int) (h0 : -9223372036854775808 ≤ n) (h1 : n ≤ 9223372036854775807) {xs : List Item} (hx : rangeL l1 f t = xs) : Calls Try.prog 18 #[.pointer (some ⟨g1, 0, none⟩), .string f, .string t, .int .i64 n] w fun e w' =>
    PagePost w xs n.toNat e w' ∧ S2 W w' P g1 m1 l1 g2 m2 l2 := by
  subst hx
  have hh := h
  obtain ⟨x, F1, F2, b, c, d, e, u⟩ := h
  refine (page_src (srcOfM b) f t n h0 h1).mono ?_
  rintro e' w' ⟨A, cp, rfl, h3, h4⟩
  exact ⟨⟨A, cp, rfl, h3, h4⟩, hh.below h4⟩
theorem S2.rising1 (h : S2 W w P g1 m1 l1 g2 m2 l2) : Rising l1 := by
  obtain ⟨x, F1, F2, b, _⟩ := h
  exact shelfLaws.rising b
/-- a filled shelf, and one that is new -/
theorem S2.of {gs gr : Nat} {l : List Item} {F2 : List Nat} (h : OSR SH W w [] gs l gr l) (h1 : SH w1 g2 m2 l2 F2) (h2 : ∀ q ∈ F2, w.heap.size ≤ q) (hb : Below w.heap.size w w1) :
    ∃ P Fr, S2 W w1 P gs 200 l g2 m2 l2 ∧ RS w1 gr Fr 200 l ∧ gr ∈ P ∧ (∀ q ∈ Fr, q ∈ P) := by
  obtain ⟨a, F, Fr, b, c, d, e, _, _⟩ := h
  have t : Touch [] w w1 := Touch.ofBelow hb
  have ltF := b.ltF
  refine ⟨gr :: Fr, Fr, ⟨acc a hb, F, F2, b.touch t (by simp), h1, fun q hq => ⟨(d q hq).1, fun z => by have := h2 q z; have := ltF q hq; omega, fun z => ?_⟩, fun q hq => ⟨Nat.le_trans a.size (h2 q hq), fun z => ?_⟩, fun q hq => ?_⟩, c.touch t (by simp) (by simp), by simp, fun q hq => by simp [hq]⟩
  · rcases List.mem_cons.1 z with y | y
    · exact (d q hq).2.1 y
    · exact (d q hq).2.2.1 y
  · have := h2 q hq
    rcases List.mem_cons.1 z with y | y
    · have := rs_ltg c; omega
    · have := rs_ltF c q y; omega
  · have hs := hb.size
    rcases List.mem_cons.1 hq with y | y
    · have := rs_ltg c; omega
    · have := rs_ltF c q y; omega
end
end Go.Proofs.Ytojiblhaiokdcaa
namespace Go.Proofs.Ytojiblhaiokdcaa
open Go.RowKit

theorem itemsAt_of {w : World} {base c : Nat} {A : Option Addr} {ms : List Item} (hr : w.ownsRow base 39 2 (.slice A ms.length c) ms.length (itemCells ms)) : ItemsAt w A ms ∧ ms.length ≤ c := by
  refine ⟨?_, ?_⟩
  · obtain ⟨b, off, h⟩ := rowOut_of (F := []) hr (fun q _ z => by cases z)
    exact ⟨b, off, fun i hi => ⟨(h i hi).1, (h i hi).2.1, (h i hi).2.2.2⟩⟩
  · rcases hr.2 with ⟨h0, h1⟩ | ⟨g, cap, cur, h0, _, _, z, _⟩
    · omega
    · injection h0 with _ _ e3
      omega
abbrev kA : ByteArray := ⟨#[97]⟩
abbrev kB : ByteArray := ⟨#[98]⟩
abbrev kC : ByteArray := ⟨#[99]⟩
abbrev kE : ByteArray := ⟨#[]⟩
theorem alive_fill : fillL [(kB, kE), (kA, kE), (kC, kE)] = [(kA, kE), (kB, kE), (kC, kE)] := by
  simp [fillL, fill1, putS, putE, rightN, valueN, putN, hasN, placeN, lessB, Lib.toList_data, Op.bytesLess, ByteArray.size]
theorem alive_range : rangeL [(kA, kE), (kB, kE), (kC, kE)] kE kE = [(kA, kE), (kB, kE), (kC, kE)] := by
  simp [rangeL, lessB, Lib.toList_data, Op.bytesLess, ByteArray.size]
theorem alive_arc : (arcL [(kA, kE), (kB, kE), (kC, kE)] 0 0).length = 3 ∧ leftL [(kA, kE), (kB, kE), (kC, kE)] 0 0 = [] := by
  simp [arcL, leftL, inA, inB]
set_option maxRecDepth 100000 in
set_option maxHeartbeats 8000000 in
theorem cutAlive_any (W w0 : World) (hw : Below W.heap.size W w0) :
    Calls Try.prog 9 #[] w0 fun e w' => e = .returned (.bool true) ∧ Below W.heap.size W w' := by
  obtain ⟨l, hl⟩ : ∃ l, fillL [(kB, kE), (kA, kE), (kC, kE)] = l := ⟨_, rfl⟩
  have hl2 : l = [(kA, kE), (kB, kE), (kC, kE)] := hl.symm.trans alive_fill
  obtain ⟨V, hV⟩ : ∃ V, w0.alloc (.cells #[.string kB, .string kE, .string kA, .string kE, .string kC, .string kE] 39) = V := ⟨_, rfl⟩
  have CF : Hid (Calls Try.prog 10 #[.slice (some ⟨w0.heap.size, 0, none⟩) 3 3] (w0.alloc (.cells #[.string kB, .string kE, .string kA, .string kE, .string kC, .string kE] 39)) fun e w' => ∃ gs gr, e = .returned (.tuple #[.pointer (some ⟨gs, 0, none⟩), .pointer (some ⟨gr, 0, none⟩)]) ∧ S1 V w' [] gs 200 l) := by
    subst hV
    refine (filled_any shelfLaws (some ⟨w0.heap.size, 0, none⟩) 3 [(kB, kE), (kA, kE), (kC, kE)] _ _ (Below.refl _ _) ⟨w0.heap.size, 0, fun i hi => ?_⟩ (by simp)).mono ?_
    · have h : i = 0 ∨ i = 1 ∨ i = 2 := by simp at hi; omega
      rcases h with rfl | rfl | rfl <;> refine ⟨rfl, by simp, ?_, ?_⟩ <;> go_simp
    · rintro e w' ⟨gs, gr, rfl, z⟩
      rw [hl] at z
      obtain ⟨Fr, z1, _⟩ := S1.of z
      exact ⟨gs, gr, rfl, z1.less (by simp)⟩
  have HB0 : Hid (Below W.heap.size W V) := by rw [← hV]; exact hw.alloc hw.size _
  have CP1 : Hid (∀ w gs, S1 V w [] gs 200 l → Calls Try.prog 18 #[.pointer (some ⟨gs, 0, none⟩), .string ⟨#[]⟩, .string ⟨#[]⟩, .int .i64 2] w fun e w' => ∃ A c, e = .returned (.tuple #[.slice A 2 c, .bool true, .string ⟨#[99]⟩]) ∧ (ItemsAt w' A [(kA, kE), (kB, kE)] ∧ 2 ≤ c) ∧ S1 V w' [] gs 200 l) := fun w gs h => (h.page kE kE 2 (by omega) (by omega) (xs := [(kA, kE), (kB, kE), (kC, kE)]) (by rw [hl2]; exact alive_range)).mono (by
    rintro e w' ⟨⟨A, c, rfl, z1, z2⟩, z3⟩
    exact ⟨A, c, rfl, itemsAt_of (ms := [(kA, kE), (kB, kE)]) z1, z3⟩)
  have CC : Hid (∀ w gs A c, S1 V w [] gs 200 l → (ItemsAt w A [(kA, kE), (kB, kE)] ∧ 2 ≤ c) → Calls Try.prog 25 #[.slice A 2 c] w fun e w' => ∃ A1 c1, e = .returned (.slice A1 1 c1) ∧ S1 V w' [] gs 200 l) := fun w gs A c h hA => (chunks_any A c [(kA, kE), (kB, kE)] w (by simp) hA.2 hA.1).mono (by
    rintro e w' ⟨A1, c1, vs, rfl, _, _, _, _, z⟩
    exact ⟨A1, c1, rfl, h.below z⟩)
  have CO : Hid (∀ w gs, S1 V w [] gs 200 l → Calls Try.prog 12 #[.pointer (some ⟨gs, 0, none⟩), .agg #[.int .u64 0, .int .u64 0]] w fun e w' => ∃ A c, e = .returned (.slice A 3 c) ∧ S1 V w' [] gs 200 []) := fun w gs h => (h.out 0 0 (by omega) (by omega) (left := []) rfl (by rw [hl2]; exact alive_arc.2)).mono (by
    rintro e w' ⟨A, c, rfl, z1, z2, z3⟩
    have hn : (arcL l 0 0).length = 3 := by rw [hl2]; exact alive_arc.1
    exact ⟨A, c, by rw [hn], z2.less (by simp)⟩)
  have CL : Hid (∀ w gs, S1 V w [] gs 200 [] → Calls Try.prog 14 #[.pointer (some ⟨gs, 0, none⟩)] w fun e w' => e = .returned (.int .i64 0) ∧ S1 V w' [] gs 200 []) := fun w gs h => (h.len (n := 0) rfl).mono (by
    rintro e w' ⟨rfl, z, _⟩
    exact ⟨rfl, z⟩)
  clear hl hl2 hV hw
  go_enter Try.func9, Try.ntmps9
  go_wp2_with (first
    | (go_at_call 10; (with_reducible refine (CF.out).mono ?_); rintro e w1 ⟨gs, gr, rfl, h1⟩; have H1 := Lib.hid h1; clear h1)
    | (go_at_call 18; (with_reducible refine (CP1.out _ _ H1.out).mono ?_); rintro e w2 ⟨A2, c2, rfl, i2, h2⟩; have H2 := Lib.hid h2; have I2 := Lib.hid i2; clear h2 i2)
    | (go_at_call 25; (with_reducible refine (CC.out _ _ _ _ H2.out I2.out).mono ?_); rintro e w3 ⟨A3, c3, rfl, h3⟩; have H3 := Lib.hid h3; clear h3)
    | (go_at_call 12; (with_reducible refine (CO.out _ _ H3.out).mono ?_); rintro e w4 ⟨A4, c4, rfl, h4⟩; have H4 := Lib.hid h4; clear h4)
    | (go_at_call 14; (with_reducible refine (CL.out _ _ H4.out).mono ?_); rintro e w5 ⟨rfl, h5⟩; have H5 := Lib.hid h5; clear h5))
  go_ret
  exact ⟨rfl, acc HB0.out H5.out.1⟩
end Go.Proofs.Ytojiblhaiokdcaa
