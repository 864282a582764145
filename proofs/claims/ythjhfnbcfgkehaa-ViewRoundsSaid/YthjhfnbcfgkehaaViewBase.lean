/-
  What is asked of the code's calls on a view (ViewLaws); a view of the call's own, apart from blocks P that stay (VX).
-/
import Derived.Test.YthjhfnbcfgkehaaViewRing
import Derived.Test.YthjhfnbcfgkehaaViewZero
import Derived.Test.YthjhfnbcfgkehaaLists
import Derived.Test.YthjhfnbcfgkehaaKept
namespace Go.Proofs.Ythjhfnbcfgkehaa
open Go.RowKit

abbrev AO.cells (p : AO) : Array Value := #[.int .u64 (p.f : Nat), .int .u64 (p.t : Nat), .int .i64 p.n, .int .i64 p.e]
abbrev ZO : AO := ⟨0, 0, 0, 0⟩
/-- what may be handed in -/
structure AO.Fit (p : AO) : Prop where
  f : p.f < 18446744073709551616
  t : p.t < 18446744073709551616
  n : -9223372036854775808 ≤ p.n ∧ p.n ≤ 9223372036854775807
  e : -9223372036854775808 ≤ p.e ∧ p.e ≤ 9223372036854775807
/-- is there a point at which it is news? -/
def news (a : List AO) (s : AO) : Prop := ∃ x, x < 18446744073709551616 ∧ inB s.f s.t x = true ∧ ∀ v, kn a x = some v → v.2 < s.e
/-- what Learn makes of it -/
def LearnPost (a : List AO) (s : AO) (b : Bool) (a1 : List AO) : Prop :=
  (s.may ∧ (∀ x, x < 18446744073709551616 → kn a1 x = learnt s (kn a) x) ∧ (b = true ↔ news a s)) ∨ (¬ s.may ∧ b = false ∧ a1 = a)
/-- what is answered of the arc around a point -/
def Around (a : List AO) (x : Nat) (yes : AO → Value) (no : Value) (e : Ending) : Prop :=
  (∀ p ∈ a, p.has x = true → e = .returned (.tuple #[yes p, .bool true])) ∧ ((∀ p ∈ a, p.has x = false) → e = .returned (.tuple #[no, .bool false]))
/-- the function i, with what it has captured, hands xs to a closure, one by one, till it says no -/
def Tour {α : Type} (i : Nat) (lb : Array Value) (enc : α → Array Value) (xs : List α) (F : List Nat) (W : World) : Prop :=
  ∀ (y : Nat) (yf yc : Array Value), (∀ a w, (callFunc y a).run Try.prog w = .ok (.enter y a) w) →
    ∀ (J : Nat → World → List Nat → Prop) (Q : World → List Nat → Prop) (Y0 : List Nat), (∀ q ∈ Y0, q < W.heap.size ∧ q ∉ F) → J 0 W Y0 → (∀ n, Abid (J n)) → Abid Q →
    (∀ n x w Y, xs[n]? = some x → J n w Y → (∀ q ∈ Y, q < w.heap.size) → Calls Try.prog y (yf ++ enc x ++ yc) w fun e w' =>
      ∃ Y', Left [] Y w w' Y' ∧ ((e = .returned (.bool true) ∧ J (n + 1) w' Y') ∨ (e = .returned (.bool false) ∧ Q w' Y'))) →
    Calls Try.prog i (#[.func (.func y) yf yc] ++ lb) W fun e w' => e = .returned (.tuple #[]) ∧ ∃ Y, Left [] Y0 W w' Y ∧ (J xs.length w' Y ∨ Q w' Y)
/-- what is asked of the code's calls; VH: the view at a block, with its arcs, and the blocks that it has -/
structure ViewLaws (VH : World → Nat → List AO → List Nat → Prop) : Prop where
  has : ∀ {w g a F}, VH w g a F → g ∈ F ∧ ∀ q ∈ F, q < w.heap.size
  arcs : ∀ {w g a F}, VH w g a F → Arcs a
  touch : ∀ {w w' g a F G}, VH w g a F → Touch G w w' → (∀ q ∈ F, q ∉ G) → VH w' g a F
  zero : ∀ w : World, VH (w.alloc (.cells VZ 32)) w.heap.size [] [w.heap.size]
  learn : ∀ {w g a F} (s : AO), s.Fit → a.length ≤ 10000 → VH w g a F → Calls Try.prog 8 #[.pointer (some ⟨g, 0, none⟩), .agg s.cells] w fun e w' =>
    ∃ b a1 F1, e = .returned (.bool b) ∧ VH w' g a1 F1 ∧ Touch F w w' ∧ (∀ q ∈ F1, q ∈ F ∨ w.heap.size ≤ q) ∧ LearnPost a s b a1
  owner : ∀ {w g a F} (x : Nat), x < 18446744073709551616 → VH w g a F → Calls Try.prog 9 #[.pointer (some ⟨g, 0, none⟩), .int .u64 (x : Nat)] w fun e w' =>
    Around a x (fun p => .agg p.cells) (.agg ZO.cells) e ∧ Below w.heap.size w w'
  next : ∀ {w g a F} (x : Nat), x < 18446744073709551616 → VH w g a F → Calls Try.prog 15 #[.pointer (some ⟨g, 0, none⟩), .int .u64 (x : Nat)] w fun e w' =>
    Around a x (fun p => .int .u64 (p.t : Nat)) (.int .u64 0) e ∧ Below w.heap.size w w'
  len : ∀ {w g a F}, VH w g a F → Calls Try.prog 13 #[.pointer (some ⟨g, 0, none⟩)] w fun e w' => e = .returned (.int .i64 (a.length : Nat)) ∧ Below w.heap.size w w'
  ring : ∀ {w g a F}, VH w g a F → Calls Try.prog 14 #[.pointer (some ⟨g, 0, none⟩)] w fun e w' =>
    (∃ b, e = .returned (.bool b) ∧ (b = true ↔ ∀ x, x < 18446744073709551616 → kn a x ≠ none)) ∧ Below w.heap.size w w'
  nodes : ∀ {w g a F}, a.length ≤ 10000 → VH w g a F → Calls Try.prog 17 #[.pointer (some ⟨g, 0, none⟩)] w fun e w' =>
    ∃ (A : Option Addr) (c : Nat) (ns : List Int), e = .returned (.slice A ns.length c) ∧ w'.ownsRow w.heap.size 3 1 (.slice A ns.length c) ns.length (ns.map fun n : Int => .int .i64 n) ∧ ns.Pairwise (· < ·) ∧ (∀ n, n ∈ ns ↔ ∃ p ∈ a, p.n = n) ∧ Below w.heap.size w w'
  all : ∀ {w g a F}, VH w g a F → Calls Try.prog 21 #[.pointer (some ⟨g, 0, none⟩)] w fun e w' =>
    ∃ i lb, e = .returned (.func (.func i) #[] lb) ∧ (∀ a w, (callFunc i a).run Try.prog w = .ok (.enter i a) w) ∧ Below w.heap.size w w' ∧ ∀ W, Below w'.heap.size w' W → Tour i lb (fun p : AO => #[.agg p.cells]) a F W
/-- the view at g, of the call's own, apart from P -/
def VX (VH : World → Nat → List AO → List Nat → Prop) (W w : World) (P : List Nat) (g : Nat) (a : List AO) : Prop :=
  Below W.heap.size W w ∧ (∃ F, VH w g a F ∧ ∀ q ∈ F, W.heap.size ≤ q ∧ q ∉ P) ∧ ∀ q ∈ P, q < w.heap.size
section
variable {VH : World → Nat → List AO → List Nat → Prop} {W w w1 : World} {P : List Nat} {g : Nat} {a a1 : List AO}
theorem VX.base (h : VX VH W w P g a) : Below W.heap.size W w := h.1
theorem VX.arcs (L : ViewLaws VH) (h : VX VH W w P g a) : Arcs a := by
  obtain ⟨_, ⟨F, b, _⟩, _⟩ := h
  exact L.arcs b
theorem VX.below (L : ViewLaws VH) (h : VX VH W w P g a) (hb : Below w.heap.size w w1) : VX VH W w1 P g a := by
  obtain ⟨x, ⟨F, b, c⟩, d⟩ := h
  exact ⟨acc x hb, ⟨F, L.touch b (Touch.ofBelow (F := []) hb) (by simp), c⟩, fun q hq => Nat.lt_of_lt_of_le (d q hq) hb.size⟩
/-- more blocks that stay: new ones -/
theorem VX.more (L : ViewLaws VH) (h : VX VH W w P g a) (hb : Below w.heap.size w w1) {Q : List Nat} (hQ : ∀ q ∈ Q, w.heap.size ≤ q ∧ q < w1.heap.size) : VX VH W w1 (Q ++ P) g a := by
  obtain ⟨x, ⟨F, b, c⟩, d⟩ := h
  refine ⟨acc x hb, ⟨F, L.touch b (Touch.ofBelow (F := []) hb) (by simp), fun q hq => ⟨(c q hq).1, fun z => ?_⟩⟩, fun q hq => ?_⟩
  · rcases List.mem_append.1 z with z | z
    · have := (L.has b).2 q hq
      have := (hQ q z).1
      omega
    · exact (c q hq).2 z
  · rcases List.mem_append.1 hq with z | z
    · exact (hQ q z).2
    · exact Nat.lt_of_lt_of_le (d q z) hb.size
theorem VX.less {Q : List Nat} (h : VX VH W w P g a) (hQ : ∀ q ∈ Q, q ∈ P) : VX VH W w Q g a := by
  obtain ⟨x, ⟨F, b, c⟩, d⟩ := h
  exact ⟨x, ⟨F, b, fun q hq => ⟨(c q hq).1, fun z => (c q hq).2 (hQ q z)⟩⟩, fun q hq => d q (hQ q hq)⟩
theorem VX.zero (L : ViewLaws VH) (x : Below W.heap.size W w) (hP : ∀ q ∈ P, q < w.heap.size) : VX VH W (w.alloc (.cells VZ 32)) P w.heap.size [] :=
  ⟨x.alloc x.size _, ⟨_, L.zero w, fun q hq => by simp at hq; subst hq; exact ⟨x.size, fun z => Nat.lt_irrefl _ (hP _ z)⟩⟩, fun q hq => by have := hP q hq; simp; omega⟩
theorem VX.learn (L : ViewLaws VH) (h : VX VH W w P g a) (s : AO) (hs : s.Fit) (hn : a.length ≤ 10000) : Calls Try.prog 8 #[.pointer (some ⟨g, 0, none⟩), .agg s.cells] w fun e w' =>
    ∃ b a1, e = .returned (.bool b) ∧ VX VH W w' P g a1 ∧ Kept P w w' ∧ LearnPost a s b a1 := by
  obtain ⟨x, ⟨F, b, c⟩, d⟩ := h
  refine (L.learn s hs hn b).mono ?_
  rintro e w' ⟨r, a1, F1, rfl, h1, t, h2, h3⟩
  refine ⟨r, a1, rfl, ⟨Touch.acc x t (fun q hq => (c q hq).1), ⟨F1, h1, fun q hq => ?_⟩, fun q hq => Nat.lt_of_lt_of_le (d q hq) t.size⟩, ⟨F, t, fun q hq z => (c q z).2 hq⟩, h3⟩
  rcases h2 q hq with z | z
  · exact c q z
  · exact ⟨Nat.le_trans x.size z, fun y => by have := d q y; omega⟩
theorem VX.owner (L : ViewLaws VH) (h : VX VH W w P g a) (x : Nat) (hx : x < 18446744073709551616) : Calls Try.prog 9 #[.pointer (some ⟨g, 0, none⟩), .int .u64 (x : Nat)] w fun e w' =>
    Around a x (fun p => .agg p.cells) (.agg ZO.cells) e ∧ Below w.heap.size w w' := by
  obtain ⟨_, ⟨F, b, _⟩, _⟩ := h
  exact L.owner x hx b
theorem VX.next (L : ViewLaws VH) (h : VX VH W w P g a) (x : Nat) (hx : x < 18446744073709551616) : Calls Try.prog 15 #[.pointer (some ⟨g, 0, none⟩), .int .u64 (x : Nat)] w fun e w' =>
    Around a x (fun p => .int .u64 (p.t : Nat)) (.int .u64 0) e ∧ Below w.heap.size w w' := by
  obtain ⟨_, ⟨F, b, _⟩, _⟩ := h
  exact L.next x hx b
theorem VX.len (L : ViewLaws VH) (h : VX VH W w P g a) : Calls Try.prog 13 #[.pointer (some ⟨g, 0, none⟩)] w fun e w' => e = .returned (.int .i64 (a.length : Nat)) ∧ Below w.heap.size w w' := by
  obtain ⟨_, ⟨F, b, _⟩, _⟩ := h
  exact L.len b
theorem VX.ring (L : ViewLaws VH) (h : VX VH W w P g a) : Calls Try.prog 14 #[.pointer (some ⟨g, 0, none⟩)] w fun e w' =>
    (∃ b, e = .returned (.bool b) ∧ (b = true ↔ ∀ x, x < 18446744073709551616 → kn a x ≠ none)) ∧ Below w.heap.size w w' := by
  obtain ⟨_, ⟨F, b, _⟩, _⟩ := h
  exact L.ring b
theorem VX.nodes (L : ViewLaws VH) (h : VX VH W w P g a) (hn : a.length ≤ 10000) : Calls Try.prog 17 #[.pointer (some ⟨g, 0, none⟩)] w fun e w' =>
    ∃ (A : Option Addr) (c : Nat) (ns : List Int), e = .returned (.slice A ns.length c) ∧ w'.ownsRow w.heap.size 3 1 (.slice A ns.length c) ns.length (ns.map fun n : Int => .int .i64 n) ∧ ns.Pairwise (· < ·) ∧ (∀ n, n ∈ ns ↔ ∃ p ∈ a, p.n = n) ∧ Below w.heap.size w w' := by
  obtain ⟨_, ⟨F, b, _⟩, _⟩ := h
  exact L.nodes hn b
end
/-- what is answered, at a point that is known, and at one that is not -/
theorem Around.at_ {a : List AO} {x : Nat} {yes : AO → Value} {no : Value} {e : Ending} (z : Around a x yes no e) :
    (∃ p ∈ a, p.has x = true ∧ kn a x = some p.val ∧ e = .returned (.tuple #[yes p, .bool true])) ∨ (kn a x = none ∧ e = .returned (.tuple #[no, .bool false])) := by
  cases hk : kn a x with
  | none => exact .inr ⟨rfl, z.2 (kn_none hk)⟩
  | some v =>
    obtain ⟨p, hp, h1, rfl⟩ := kn_some hk
    exact .inl ⟨p, hp, h1, rfl, z.1 p hp h1⟩
end Go.Proofs.Ythjhfnbcfgkehaa
