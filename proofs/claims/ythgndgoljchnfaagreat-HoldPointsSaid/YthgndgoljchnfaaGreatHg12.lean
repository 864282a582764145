/-
  What is asked of the code's calls on a hold (HoldLaws); a hold of the call's own, apart from blocks P that stay (DX).
  The walks of the document's own shelf: Shelves, At, Put, Del.
  The walk of the document's own shelf: Put.
  The walks of the book of lists: SameItems, copyItems; the document's own Shelves.
-/
import Derived.Test.YthgndgoljchnfaaGreatHg03
import Derived.Test.YthgndgoljchnfaaGreatHg09
import Derived.Test.YthgndgoljchnfaaGreatHg01
import Derived.Test.YthgndgoljchnfaaGreatHg06
import Derived.Test.YthgndgoljchnfaaGreatHg02
import Derived.Deep.QuietTactic
import Derived.BigQuiet
import Derived.Deep.DeepCutAuto
import Derived.Deep.RegionLaw
import Derived.WideShapes
import Derived.Laws.AppendOwnNone
namespace Go.Proofs.YthgndgoljchnfaaGreat
open Go.RowKit

abbrev AK.cells (a : AK) : Array Value := #[.int .i64 a.op, .string a.key, .string a.val, .string a.tt, .int .i64 a.most]
abbrev TL.cells (t : TL) (S : Value) : Array Value := #[.int .i64 t.er, .string t.val, S, .bool t.more, .string t.nx, .int .i64 t.nd]
structure AK.Fit (a : AK) : Prop where
  op : -9223372036854775808 ≤ a.op ∧ a.op ≤ 9223372036854775807
  key : a.key.size ≤ maxLen
  val : a.val.size ≤ maxLen
  tt : a.tt.size ≤ maxLen
  most : -9223372036854775808 ≤ a.most ∧ a.most ≤ 9223372036854775807
abbrev Wide (n : Int) : Prop := -9223372036854775808 ≤ n ∧ n ≤ 9223372036854775807
/-- items in memory that somebody handed in -/
def LentAt (W : World) (S : Value) (n : Nat) (ms : List Item) : Prop := ∃ A c, S = .slice A n c ∧ ms.length = n ∧ n ≤ c ∧ c ≤ maxLen ∧ ∀ j u, (itemCells ms)[j]? = some u → ∃ p, A = some p ∧ W.cell? (p.add j) = some u
def DoPost (VD : World → Nat → HO → List Nat → Prop) (w : World) (g : Nat) (s : HO) (F : List Nat) (a : AK) (e : Ending) (w' : World) : Prop :=
  ∃ t s1 S F1, Did s a t s1 ∧ e = .returned (.agg (t.cells S)) ∧ w'.ownsRow w.heap.size 31 2 S t.its.length (itemCells t.its) ∧ (∀ q, S.ownBlock = some q → q ∉ F1) ∧ VD w' g s1 F1 ∧ Touch F w w' ∧ ∀ q ∈ F1, q ∈ F ∨ w.heap.size ≤ q
def FreezePost (VD : World → Nat → HO → List Nat → Prop) (w : World) (g : Nat) (s : HO) (F : List Nat) (f t : Nat) (e : Ending) (w' : World) : Prop :=
  ∃ (l : List Item) (ep er : Int) (s1 : HO) (S : Value) (F1 : List Nat), e = .returned (.tuple #[S, .int .i64 ep, .int .i64 er]) ∧ w'.ownsRow w.heap.size 31 2 S l.length (itemCells l) ∧ (∀ q, S.ownBlock = some q → q ∉ F1) ∧ VD w' g s1 F1 ∧ Touch F w w' ∧ (∀ q ∈ F1, q ∈ F ∨ w.heap.size ≤ q) ∧
    ((s.g.shut = true ∧ er = 7 ∧ l = [] ∧ ep = 0 ∧ s1 = s) ∨ (s.g.shut = false ∧ (∃ x, x < 18446744073709551616 ∧ inB f t x = true ∧ s.own x = none) ∧ er = 1 ∧ l = [] ∧ ep = 0 ∧ s1 = s) ∨
     (s.g.shut = false ∧ (∀ x, x < 18446744073709551616 → inB f t x = true → s.own x ≠ none) ∧ er = 0 ∧ l = arcL s.its f t ∧ Greatest s.own (fun x => inB f t x = true) ep ∧ s1 = ⟨s.nd, s.most, s.kept, s.own, s.its, ⟨true, f, t, s.g.l, s.g.k⟩, s.k⟩))
/-- what a call that answers v, and leaves s1, leaves -/
def HdPost (VD : World → Nat → HO → List Nat → Prop) (w : World) (g : Nat) (F : List Nat) (v : Value) (s1 : HO) (e : Ending) (w' : World) : Prop :=
  ∃ F1, e = .returned v ∧ VD w' g s1 F1 ∧ Touch F w w' ∧ ∀ q ∈ F1, q ∈ F ∨ w.heap.size ≤ q
/-- a row of arcs, as a hold tells them -/
abbrev ownedC (l : List AO) (nd : Int) : List Value := l.flatMap fun p => [.int .u64 (p.f : Nat), .int .u64 (p.t : Nat), .int .i64 nd, .int .i64 p.e]
/-- a row of the call's own, wherever it begins in its block -/
def PcRow (w : World) (base : Nat) (S : Value) (n : Nat) (xs : List Value) : Prop := OwnAt w 60 4 S n xs ∧ ∀ q, S.ownBlock = some q → base ≤ q
/-- what is asked of the code's calls; VD: the hold at a block, with what it has, and the blocks that it has -/
structure HoldLaws (VD : World → Nat → HO → List Nat → Prop) : Prop where
  has_ : ∀ {w g s F}, VD w g s F → g ∈ F ∧ ∀ q ∈ F, q < w.heap.size
  rising : ∀ {w g s F}, VD w g s F → Rising s.its ∧ ∀ x ∈ s.its, rightN x.1 = 0 ∧ valueN x.2 = 0
  touch : ∀ {w w' g s F G}, VD w g s F → Touch G w w' → (∀ q ∈ F, q ∉ G) → VD w' g s F
  new : ∀ (nd most : Int) (w : World), Wide nd → Wide most → Calls Tryz.prog 12 #[.int .i64 nd, .int .i64 most] w fun e w' =>
    ∃ g F, e = .returned (.pointer (some ⟨g, 0, none⟩)) ∧ VD w' g (HO.new nd most) F ∧ (∀ q ∈ F, w.heap.size ≤ q) ∧ Below w.heap.size w w'
  own : ∀ {w g s F} (f t : Nat) (ep : Int), f < 18446744073709551616 → t < 18446744073709551616 → Wide ep → s.k ≤ 1000 → VD w g s F → Calls Tryz.prog 13 #[.pointer (some ⟨g, 0, none⟩), .agg #[.int .u64 (f : Nat), .int .u64 (t : Nat)], .int .i64 ep] w fun e w' =>
    (s.may f t ep ∧ HdPost VD w g F (.bool true) (s.take f t ep) e w') ∨ (¬ s.may f t ep ∧ HdPost VD w g F (.bool false) s e w')
  do_ : ∀ {w g s F} (a : AK), a.Fit → s.k ≤ 1000 → s.g.l.length ≤ 1000 → VD w g s F → Calls Tryz.prog 14 #[.pointer (some ⟨g, 0, none⟩), .agg a.cells] w (DoPost VD w g s F a)
  len : ∀ {w g s F}, VD w g s F → Calls Tryz.prog 18 #[.pointer (some ⟨g, 0, none⟩)] w fun e w' => e = .returned (.int .i64 (s.its.length : Nat)) ∧ Below w.heap.size w w'
  has : ∀ {w g s F} (x : Nat), x < 18446744073709551616 → s.k ≤ 1000 → VD w g s F → Calls Tryz.prog 27 #[.pointer (some ⟨g, 0, none⟩), .int .u64 (x : Nat)] w fun e w' => e = .returned (.bool (s.own x).isSome) ∧ Below w.heap.size w w'
  epoch : ∀ {w g s F}, s.k ≤ 1000 → VD w g s F → Calls Tryz.prog 19 #[.pointer (some ⟨g, 0, none⟩)] w fun e w' => (∃ ep : Int, e = .returned (.int .i64 ep) ∧ (Greatest s.own (fun _ => True) ep ∨ ((∀ x, x < 18446744073709551616 → s.own x = none) ∧ ep = 0))) ∧ Below w.heap.size w w'
  items : ∀ {w g s F}, VD w g s F → Calls Tryz.prog 15 #[.pointer (some ⟨g, 0, none⟩)] w fun e w' => ∃ S, e = .returned S ∧ w'.ownsRow w.heap.size 31 2 S s.its.length (itemCells s.its) ∧ Below w.heap.size w w'
  freeze : ∀ {w g s F} (f t : Nat), f < 18446744073709551616 → t < 18446744073709551616 → s.k ≤ 1000 → VD w g s F → Calls Tryz.prog 20 #[.pointer (some ⟨g, 0, none⟩), .agg #[.int .u64 (f : Nat), .int .u64 (t : Nat)]] w (FreezePost VD w g s F f t)
  thaw : ∀ {w g s F}, VD w g s F → Calls Tryz.prog 24 #[.pointer (some ⟨g, 0, none⟩)] w (HdPost VD w g F (.tuple #[]) ⟨s.nd, s.most, s.kept, s.own, s.its, s.g.thaw, s.k⟩)
  lose : ∀ {w g s F} (n : Int), Wide n → s.k ≤ 1000 → s.g.l.length ≤ 1000 → VD w g s F → Calls Tryz.prog 25 #[.pointer (some ⟨g, 0, none⟩), .int .i64 n] w fun e w' =>
    (s.g.shut = true ∧ HdPost VD w g F (.int .i64 0) (s.lose n) e w') ∨ (s.g.shut = false ∧ HdPost VD w g F (.int .i64 10) s e w')
  win : ∀ {w g s F} (f t : Nat) (ep : Int) (S : Value) (n : Nat) (ms : List Item), f < 18446744073709551616 → t < 18446744073709551616 → Wide ep → n ≤ 1000 → LentAt w S n ms → (∀ x ∈ ms, x.1.size ≤ maxLen ∧ x.2.size ≤ maxLen) → (∀ q, S.ownBlock = some q → q ∉ F) → s.k ≤ 1000 → VD w g s F →
    Calls Tryz.prog 17 #[.pointer (some ⟨g, 0, none⟩), .agg #[.int .u64 (f : Nat), .int .u64 (t : Nat)], .int .i64 ep, S] w fun e w' =>
      ((¬ s.may f t ep ∨ ∃ x ∈ ms, inB f t (adr x) = false) ∧ HdPost VD w g F (.int .i64 1) s e w') ∨
      (s.may f t ep ∧ (∀ x ∈ ms, inB f t (adr x) = true) ∧ ((putsEI s.most s.its ms ≠ 0 ∧ HdPost VD w g F (.int .i64 (putsEI s.most s.its ms)) s e w') ∨
        (putsEI s.most s.its ms = 0 ∧ HdPost VD w g F (.int .i64 0) ⟨s.nd, s.most, s.kept - n, (s.take f t ep).own, putsSI s.most s.its ms, s.g, s.k + 1⟩ e w')))
  keep : ∀ {w g s F} (n : Int), Wide n → VD w g s F → Calls Tryz.prog 16 #[.pointer (some ⟨g, 0, none⟩), .int .i64 n] w fun e w' =>
    ((0 ≤ n ∧ (s.its.length : Int) + s.kept + n ≤ s.most) ∧ HdPost VD w g F (.bool true) ⟨s.nd, s.most, s.kept + n.toNat, s.own, s.its, s.g, s.k⟩ e w') ∨ (¬ (0 ≤ n ∧ (s.its.length : Int) + s.kept + n ≤ s.most) ∧ HdPost VD w g F (.bool false) s e w')
  tick : ∀ {w g s F}, s.g.l.length ≤ 1000 → s.g.k ≤ 1000000 → VD w g s F → Calls Tryz.prog 31 #[.pointer (some ⟨g, 0, none⟩)] w (HdPost VD w g F (.tuple #[]) ⟨s.nd, s.most, s.kept, s.own, s.its, s.g.tick, s.k⟩)
  arcs : ∀ {w g s F}, s.k ≤ 1000 → VD w g s F → Calls Tryz.prog 29 #[.pointer (some ⟨g, 0, none⟩)] w fun e w' => ∃ (l : List AO) (A : Option Addr) (c : Nat), e = .returned (.slice A l.length c) ∧ w'.ownsRow w.heap.size 60 4 (.slice A l.length c) l.length (ownedC l s.nd) ∧
    Arcs l ∧ (∀ x, x < 18446744073709551616 → kn l x = (s.own x).map fun e => (0, e)) ∧ Below w.heap.size w w'
  pieces : ∀ {w g s F}, s.k ≤ 1000 → VD w g s F → Calls Tryz.prog 28 #[.pointer (some ⟨g, 0, none⟩)] w fun e w' => ∃ (l m : List AO) (A : Option Addr) (c : Nat), e = .returned (.slice A l.length c) ∧ PcRow w' w.heap.size (.slice A l.length c) l.length (ownedC l s.nd) ∧
    Arcs m ∧ (∀ x, x < 18446744073709551616 → kn m x = (s.own x).map fun _ => (0, 0)) ∧ m.length = l.length ∧ (∀ (i : Nat) (p q : AO), l[i]? = some p → m[i]? = some q → p.f = q.f ∧ p.t = q.t ∧ Greatest s.own (fun x => inB p.f p.t x = true) p.e) ∧ Below w.heap.size w w'
/-- the hold at g, of the call's own, apart from P -/
def DX (VD : World → Nat → HO → List Nat → Prop) (W w : World) (P : List Nat) (g : Nat) (s : HO) : Prop :=
  Below W.heap.size W w ∧ (∃ F, VD w g s F ∧ ∀ q ∈ F, W.heap.size ≤ q ∧ q ∉ P) ∧ ∀ q ∈ P, q < w.heap.size
section
variable {VD : World → Nat → HO → List Nat → Prop} {W w w1 : World} {P : List Nat} {g : Nat} {s : HO}
theorem DX.base (h : DX VD W w P g s) : Below W.heap.size W w := h.1
theorem DX.below (L : HoldLaws VD) (h : DX VD W w P g s) (hb : Below w.heap.size w w1) : DX VD W w1 P g s := by
  obtain ⟨x, ⟨F, b, c⟩, d⟩ := h
  exact ⟨acc x hb, ⟨F, L.touch b (Touch.ofBelow (F := []) hb) (by simp), c⟩, fun q hq => Nat.lt_of_lt_of_le (d q hq) hb.size⟩
/-- more blocks that stay: new ones -/
theorem DX.more (L : HoldLaws VD) (h : DX VD W w P g s) (hb : Below w.heap.size w w1) {Q : List Nat} (hQ : ∀ q ∈ Q, w.heap.size ≤ q ∧ q < w1.heap.size) : DX VD W w1 (Q ++ P) g s := by
  obtain ⟨x, ⟨F, b, c⟩, d⟩ := h
  refine ⟨acc x hb, ⟨F, L.touch b (Touch.ofBelow (F := []) hb) (by simp), fun q hq => ⟨(c q hq).1, fun z => ?_⟩⟩, fun q hq => ?_⟩
  · rcases List.mem_append.1 z with z | z
    · have := (L.has_ b).2 q hq
      have := (hQ q z).1
      omega
    · exact (c q hq).2 z
  · rcases List.mem_append.1 hq with z | z
    · exact (hQ q z).2
    · exact Nat.lt_of_lt_of_le (d q z) hb.size
theorem DX.less {Q : List Nat} (h : DX VD W w P g s) (hQ : ∀ q ∈ Q, q ∈ P) : DX VD W w Q g s := by
  obtain ⟨x, ⟨F, b, c⟩, d⟩ := h
  exact ⟨x, ⟨F, b, fun q hq => ⟨(c q hq).1, fun z => (c q hq).2 (hQ q z)⟩⟩, fun q hq => d q (hQ q hq)⟩
theorem DX.new (L : HoldLaws VD) (nd most : Int) (hb : Below W.heap.size W w) (hP : ∀ q ∈ P, q < w.heap.size) (h1 : Wide nd) (h2 : Wide most) : Calls Tryz.prog 12 #[.int .i64 nd, .int .i64 most] w fun e w' =>
    ∃ g, e = .returned (.pointer (some ⟨g, 0, none⟩)) ∧ DX VD W w' P g (HO.new nd most) ∧ Below w.heap.size w w' := by
  refine (L.new nd most w h1 h2).mono ?_
  rintro e w' ⟨g, F, rfl, h3, h4, h5⟩
  exact ⟨g, rfl, ⟨acc hb h5, ⟨F, h3, fun q hq => ⟨Nat.le_trans hb.size (h4 q hq), fun z => by have := hP q z; have := h4 q hq; omega⟩⟩, fun q hq => Nat.lt_of_lt_of_le (hP q hq) h5.size⟩, h5⟩
theorem DX.post (h : Below W.heap.size W w) {F F1 : List Nat} (c : ∀ q ∈ F, W.heap.size ≤ q ∧ q ∉ P) (d : ∀ q ∈ P, q < w.heap.size) (h1 : VD w1 g s F1) (t : Touch F w w1) (h2 : ∀ q ∈ F1, q ∈ F ∨ w.heap.size ≤ q) : DX VD W w1 P g s ∧ Kept P w w1 := by
  refine ⟨⟨Touch.acc h t (fun q hq => (c q hq).1), ⟨F1, h1, fun q hq => ?_⟩, fun q hq => Nat.lt_of_lt_of_le (d q hq) t.size⟩, ⟨F, t, fun q hq z => (c q z).2 hq⟩⟩
  rcases h2 q hq with z | z
  · exact c q z
  · exact ⟨Nat.le_trans h.size z, fun y => by have := d q y; omega⟩
/-- what a call that writes leaves -/
def DXPost (VD : World → Nat → HO → List Nat → Prop) (W w : World) (P : List Nat) (g : Nat) (v : Value) (s : HO) (e : Ending) (w' : World) : Prop :=
  e = .returned v ∧ DX VD W w' P g s ∧ Kept P w w'
theorem DX.of {F : List Nat} {s1 : HO} {v : Value} {e : Ending} (h : Below W.heap.size W w) (c : ∀ q ∈ F, W.heap.size ≤ q ∧ q ∉ P) (d : ∀ q ∈ P, q < w.heap.size) (hp : HdPost VD w g F v s1 e w1) : DXPost VD W w P g v s1 e w1 := by
  obtain ⟨F1, rfl, h1, t, h2⟩ := hp
  exact ⟨rfl, DX.post h c d h1 t h2⟩
theorem DX.own (L : HoldLaws VD) (h : DX VD W w P g s) (f t : Nat) (ep : Int) (hf : f < 18446744073709551616) (ht : t < 18446744073709551616) (hw : Wide ep) (hk : s.k ≤ 1000) :
    Calls Tryz.prog 13 #[.pointer (some ⟨g, 0, none⟩), .agg #[.int .u64 (f : Nat), .int .u64 (t : Nat)], .int .i64 ep] w fun e w' => (s.may f t ep ∧ DXPost VD W w P g (.bool true) (s.take f t ep) e w') ∨ (¬ s.may f t ep ∧ DXPost VD W w P g (.bool false) s e w') := by
  obtain ⟨x, ⟨F, b, c⟩, d⟩ := h
  refine (L.own f t ep hf ht hw hk b).mono ?_
  rintro e w' (⟨h1, h2⟩ | ⟨h1, h2⟩)
  · exact .inl ⟨h1, DX.of x c d h2⟩
  · exact .inr ⟨h1, DX.of x c d h2⟩
theorem DX.has (L : HoldLaws VD) (h : DX VD W w P g s) (x : Nat) (hx : x < 18446744073709551616) (hk : s.k ≤ 1000) :
    Calls Tryz.prog 27 #[.pointer (some ⟨g, 0, none⟩), .int .u64 (x : Nat)] w fun e w' => e = .returned (.bool (s.own x).isSome) ∧ Below w.heap.size w w' := by
  obtain ⟨_, ⟨F, b, _⟩, _⟩ := h
  exact L.has x hx hk b
theorem DX.len (L : HoldLaws VD) (h : DX VD W w P g s) : Calls Tryz.prog 18 #[.pointer (some ⟨g, 0, none⟩)] w fun e w' => e = .returned (.int .i64 (s.its.length : Nat)) ∧ Below w.heap.size w w' := by
  obtain ⟨_, ⟨F, b, _⟩, _⟩ := h
  exact L.len b
theorem DX.epoch (L : HoldLaws VD) (h : DX VD W w P g s) (hk : s.k ≤ 1000) : Calls Tryz.prog 19 #[.pointer (some ⟨g, 0, none⟩)] w fun e w' => (∃ ep : Int, e = .returned (.int .i64 ep) ∧ (Greatest s.own (fun _ => True) ep ∨ ((∀ x, x < 18446744073709551616 → s.own x = none) ∧ ep = 0))) ∧ Below w.heap.size w w' := by
  obtain ⟨_, ⟨F, b, _⟩, _⟩ := h
  exact L.epoch hk b
theorem DX.thaw (L : HoldLaws VD) (h : DX VD W w P g s) : Calls Tryz.prog 24 #[.pointer (some ⟨g, 0, none⟩)] w (DXPost VD W w P g (.tuple #[]) ⟨s.nd, s.most, s.kept, s.own, s.its, s.g.thaw, s.k⟩) := by
  obtain ⟨x, ⟨F, b, c⟩, d⟩ := h
  exact (L.thaw b).mono fun e w' z => DX.of x c d z
theorem DX.tick (L : HoldLaws VD) (h : DX VD W w P g s) (h1 : s.g.l.length ≤ 1000) (h2 : s.g.k ≤ 1000000) : Calls Tryz.prog 31 #[.pointer (some ⟨g, 0, none⟩)] w (DXPost VD W w P g (.tuple #[]) ⟨s.nd, s.most, s.kept, s.own, s.its, s.g.tick, s.k⟩) := by
  obtain ⟨x, ⟨F, b, c⟩, d⟩ := h
  exact (L.tick h1 h2 b).mono fun e w' z => DX.of x c d z
theorem DX.lose (L : HoldLaws VD) (h : DX VD W w P g s) (n : Int) (hn : Wide n) (hk : s.k ≤ 1000) (h1 : s.g.l.length ≤ 1000) : Calls Tryz.prog 25 #[.pointer (some ⟨g, 0, none⟩), .int .i64 n] w fun e w' =>
    (s.g.shut = true ∧ DXPost VD W w P g (.int .i64 0) (s.lose n) e w') ∨ (s.g.shut = false ∧ DXPost VD W w P g (.int .i64 10) s e w') := by
  obtain ⟨x, ⟨F, b, c⟩, d⟩ := h
  refine (L.lose n hn hk h1 b).mono ?_
  rintro e w' (⟨h1, h2⟩ | ⟨h1, h2⟩)
  · exact .inl ⟨h1, DX.of x c d h2⟩
  · exact .inr ⟨h1, DX.of x c d h2⟩
/-- what is asked: what is told lies in a row of the call's own, apart from the hold -/
theorem DX.do_ (L : HoldLaws VD) (h : DX VD W w P g s) (a : AK) (ha : a.Fit) (hk : s.k ≤ 1000) (h1 : s.g.l.length ≤ 1000) : Calls Tryz.prog 14 #[.pointer (some ⟨g, 0, none⟩), .agg a.cells] w fun e w' =>
    ∃ t s1 S, Did s a t s1 ∧ e = .returned (.agg (t.cells S)) ∧ w'.ownsRow w.heap.size 31 2 S t.its.length (itemCells t.its) ∧ DX VD W w' (S.ownBlock.toList ++ P) g s1 ∧ Kept P w w' := by
  obtain ⟨x, ⟨F, b, c⟩, d⟩ := h
  refine (L.do_ a ha hk h1 b).mono ?_
  rintro e w' ⟨t, s1, S, F1, h3, rfl, h4, h5, h6, h7, h8⟩
  obtain ⟨⟨y1, ⟨F2, y2, y3⟩, y4⟩, y5⟩ := DX.post (s := s1) (g := g) (VD := VD) x c d h6 h7 h8
  refine ⟨t, s1, S, h3, rfl, h4, ⟨y1, ⟨F1, h6, fun q hq => ?_⟩, fun q hq => ?_⟩, y5⟩
  · refine ⟨?_, fun z => ?_⟩
    · rcases h8 q hq with z | z
      · exact (c q z).1
      · exact Nat.le_trans x.size z
    · rcases List.mem_append.1 z with z | z
      · exact h5 q (by simpa using z) hq
      · rcases h8 q hq with y | y
        · exact (c q y).2 z
        · have := d q z; omega
  · rcases List.mem_append.1 hq with z | z
    · exact (h4.lt q (by simpa using z)).2
    · exact y4 q z
theorem DX.freeze (L : HoldLaws VD) (h : DX VD W w P g s) (f t : Nat) (hf : f < 18446744073709551616) (ht : t < 18446744073709551616) (hk : s.k ≤ 1000) : Calls Tryz.prog 20 #[.pointer (some ⟨g, 0, none⟩), .agg #[.int .u64 (f : Nat), .int .u64 (t : Nat)]] w fun e w' =>
    ∃ (l : List Item) (ep er : Int) (s1 : HO) (S : Value), e = .returned (.tuple #[S, .int .i64 ep, .int .i64 er]) ∧ w'.ownsRow w.heap.size 31 2 S l.length (itemCells l) ∧ DX VD W w' (S.ownBlock.toList ++ P) g s1 ∧ Kept P w w' ∧
    ((s.g.shut = true ∧ er = 7 ∧ l = [] ∧ ep = 0 ∧ s1 = s) ∨ (s.g.shut = false ∧ (∃ x, x < 18446744073709551616 ∧ inB f t x = true ∧ s.own x = none) ∧ er = 1 ∧ l = [] ∧ ep = 0 ∧ s1 = s) ∨
     (s.g.shut = false ∧ (∀ x, x < 18446744073709551616 → inB f t x = true → s.own x ≠ none) ∧ er = 0 ∧ l = arcL s.its f t ∧ Greatest s.own (fun x => inB f t x = true) ep ∧ s1 = ⟨s.nd, s.most, s.kept, s.own, s.its, ⟨true, f, t, s.g.l, s.g.k⟩, s.k⟩)) := by
  obtain ⟨x, ⟨F, b, c⟩, d⟩ := h
  refine (L.freeze f t hf ht hk b).mono ?_
  rintro e w' ⟨l, ep, er, s1, S, F1, rfl, h4, h5, h6, h7, h8, h9⟩
  obtain ⟨⟨y1, _, y4⟩, y5⟩ := DX.post (s := s1) (g := g) (VD := VD) x c d h6 h7 h8
  refine ⟨l, ep, er, s1, S, rfl, h4, ⟨y1, ⟨F1, h6, fun q hq => ?_⟩, fun q hq => ?_⟩, y5, h9⟩
  · refine ⟨?_, fun z => ?_⟩
    · rcases h8 q hq with z | z
      · exact (c q z).1
      · exact Nat.le_trans x.size z
    · rcases List.mem_append.1 z with z | z
      · exact h5 q (by simpa using z) hq
      · rcases h8 q hq with y | y
        · exact (c q y).2 z
        · have := d q z; omega
  · rcases List.mem_append.1 hq with z | z
    · exact (h4.lt q (by simpa using z)).2
    · exact y4 q z
end
end Go.Proofs.YthgndgoljchnfaaGreat
namespace Go.Proofs.YthgndgoljchnfaaGreat
open Go.RowKit

/-- the document's shelf at block g, its items in blocks of F -/
def RS (W : World) (g : Nat) (F : List Nat) (most : Int) (l : List Item) : Prop :=
  ∃ A c, (g < W.heap.size ∧ W.cell? ⟨g, 0, none⟩ = some (.int .i64 most) ∧ W.cell? ⟨g, 1, none⟩ = some (.slice A l.length c) ∧ W.frozen? ⟨g, 0, none⟩ = false ∧ W.frozen? ⟨g, 1, none⟩ = false) ∧
    Row W (.slice A l.length c) l ∧ (∀ q, Value.ownBlock (.slice A l.length c) = some q → q ∈ F) ∧ (∀ q, q ∈ F → q < W.heap.size ∧ q ≠ g)
theorem RS.touch {W W1 : World} {g : Nat} {F G : List Nat} {most : Int} {l : List Item} (h : RS W g F most l) (ht : Touch G W W1) (hg : g ∉ G) (hF : ∀ q, q ∈ F → q ∉ G) : RS W1 g F most l := by
  obtain ⟨A, c, ⟨h1, h2, h3, h4, h5⟩, h6, h7, h8⟩ := h
  exact ⟨A, c, ⟨Nat.lt_of_lt_of_le h1 ht.size, (ht.cell (p := ⟨g, 0, none⟩) h1 hg).trans h2, (ht.cell (p := ⟨g, 1, none⟩) h1 hg).trans h3, (ht.frozen (p := ⟨g, 0, none⟩) h1 hg).trans h4, (ht.frozen (p := ⟨g, 1, none⟩) h1 hg).trans h5⟩,
    ht.row h6 (fun q hq => hF q (h7 q hq)), h7, fun q hq => ⟨Nat.lt_of_lt_of_le (h8 q hq).1 ht.size, (h8 q hq).2⟩⟩
theorem Row.atBlock {W : World} {A : Option Addr} {c : Nat} {l : List Item} (h : Row W (.slice A l.length c) l) (hn : 1 ≤ l.length) : ∃ q, A = some ⟨q, 0, none⟩ := by
  rcases h.2 with ⟨_, h1⟩ | ⟨g, cap, cur, h0, _⟩
  · omega
  · injection h0 with h1 _ _
    exact ⟨g, h1⟩
theorem Row.len {W : World} {v : Value} {l : List Item} (h : Row W v l) : l.length ≤ 9223372036854775807 := by
  rcases h.2 with ⟨_, h1⟩ | ⟨g, cap, cur, h0, _, _, hc, hm, _⟩
  · omega
  · unfold maxLen at hm; omega

theorem Row.cap {W : World} {A : Option Addr} {c : Nat} {l : List Item} (h : Row W (.slice A l.length c) l) : l.length ≤ c := by
  rcases h.2 with ⟨h0, h1⟩ | ⟨g, cap, cur, h0, _, _, hc, _⟩
  · omega
  · injection h0 with _ _ h3
    omega
theorem own_mono {W : World} {base b0 e size n : Nat} {v : Value} {xs : List Value} (h : W.ownsRow base e size v n xs) (hb : b0 ≤ base) : W.ownsRow b0 e size v n xs := by
  refine ⟨h.1, ?_⟩
  rcases h.2 with h0 | ⟨g, cap, cur, hv, hg, r⟩
  · exact .inl h0
  · exact .inr ⟨g, cap, cur, hv, Nat.le_trans hb hg, r⟩
theorem items_one : ∀ (l : List Item), ∀ u ∈ itemCells l, u.oneCell' = true
  | [], u, h => by cases h
  | x :: l, u, h => by
    rw [itemCells_cons] at h
    rcases List.mem_cons.1 h with rfl | h
    · rfl
    · rcases List.mem_cons.1 h with rfl | h
      · rfl
      · exact items_one l u h
theorem Row.cellsDrop {W : World} {q c : Nat} {l : List Item} (h : Row W (.slice (some ⟨q, 0, none⟩) l.length c) l) (i : Nat) :
    ∀ j u, (itemCells (l.drop i))[j]? = some u → W.cell? ((⟨q, i * 2, none⟩ : Addr).add j) = some u := by
  intro j u hj
  have hlt : j < (itemCells (l.drop i)).length := (List.getElem?_eq_some_iff.1 hj).1
  rw [itemCells_length, List.length_drop] at hlt
  rw [Go.WideShapes.add_plain, h.cellAt (i * 2 + j) (by omega), ← hj, ← itemCells_drop, List.getElem?_drop]
theorem RS.stored {V w2 : World} {g m c2 : Nat} {F : List Nat} {most : Int} {l l2 : List Item} {A2 : Option Addr} (hR : RS V g F most l) (h2 : Touch [] V w2)
    (ho : w2.ownsRow V.heap.size 31 2 (.slice A2 m c2) m (itemCells l2)) (hm : l2.length = m) :
    ∃ F', RS (w2.setCell ⟨g, 1, none⟩ (.slice A2 m c2)) g F' most l2 ∧ ∀ q, q ∈ F' → V.heap.size ≤ q := by
  subst hm
  obtain ⟨A, c, ⟨h1, h2', h3, h4, h5⟩, h6, h7, h8⟩ := hR
  have e0 := (h2.cell (p := ⟨g, 0, none⟩) h1 (by simp)).trans h2'
  have e1 := (h2.cell (p := ⟨g, 1, none⟩) h1 (by simp)).trans h3
  have f0 := (h2.frozen (p := ⟨g, 0, none⟩) h1 (by simp)).trans h4
  have f1 := (h2.frozen (p := ⟨g, 1, none⟩) h1 (by simp)).trans h5
  have hlt := fun q hq => ho.lt q hq
  have hset : Touch [g] w2 (w2.setCell ⟨g, 1, none⟩ (.slice A2 l2.length c2)) := (Touch.refl _ _).set (.inl (by simp)) _
  refine ⟨(Value.ownBlock (.slice A2 l2.length c2)).toList, ⟨A2, c2, ⟨?_, ?_, World.cell?_setCell_same _ _ _ e1, ?_, ?_⟩, ?_, ?_, ?_⟩, ?_⟩
  · simpa [World.setCell] using Nat.lt_of_lt_of_le h1 h2.size
  · rw [World.cell?_setCell_other _ _ _ _ (by simp)]; exact e0
  · rw [World.frozen?_setCell]; exact f0
  · rw [World.frozen?_setCell]; exact f1
  · exact hset.row (own_mono ho (Nat.zero_le _)) (fun q hq => by have := (hlt q hq).1; simp; omega)
  · intro q hq; rw [hq]; simp
  · intro q hq
    have hq' : Value.ownBlock (.slice A2 l2.length c2) = some q := by simpa using hq
    have := hlt q hq'
    exact ⟨by simpa [World.setCell] using this.2, by omega⟩
  · intro q hq
    exact (hlt q (by simpa using hq)).1
end Go.Proofs.YthgndgoljchnfaaGreat
namespace Go.Proofs.YthgndgoljchnfaaGreat
open Go.RowKit

/-- what Put answers -/
def putE (most : Int) (l : List Item) (k v : ByteArray) : Int :=
  if rightN k ≠ 0 then rightN k else if valueN v ≠ 0 then valueN v else if hasN l k = false ∧ most ≤ l.length then 5 else 0
/-- what is there behind it -/
def putS (most : Int) (l : List Item) (k v : ByteArray) : List Item := if putE most l k v = 0 then putN l k v else l
end Go.Proofs.YthgndgoljchnfaaGreat
namespace Go.Proofs.YthgndgoljchnfaaGreat
open Go.RowKit

theorem drewN_two (W : World) (k n : Nat) : (W.drewN k).drewN n = W.drewN (k + n) := by simp [World.drewN, Nat.add_assoc]

def sameI (x y : Item) : Bool := x.1.toList == y.1.toList && x.2.toList == y.2.toList
def sameL : List Item → List Item → Bool
  | [], [] => true
  | x :: a, y :: b => sameI x y && sameL a b
  | _, _ => false
theorem sameI_iff (x y : Item) : sameI x y = true ↔ x = y := by
  unfold sameI
  rw [Bool.and_eq_true, beq_iff_eq, beq_iff_eq]
  constructor
  · intro ⟨h1, h2⟩
    have e1 : x.1 = y.1 := by rw [Lib.toList_data, Lib.toList_data] at h1; rw [← txt_of x.1, ← txt_of y.1, h1]
    have e2 : x.2 = y.2 := by rw [Lib.toList_data, Lib.toList_data] at h2; rw [← txt_of x.2, ← txt_of y.2, h2]
    exact Prod.ext e1 e2
  · intro h; rw [h]; exact ⟨rfl, rfl⟩
theorem sameL_iff : ∀ a b : List Item, sameL a b = true ↔ a = b
  | [], [] => by simp [sameL]
  | [], _ :: _ => by simp [sameL]
  | _ :: _, [] => by simp [sameL]
  | x :: a, y :: b => by rw [sameL, Bool.and_eq_true, sameI_iff, sameL_iff a b, List.cons.injEq]

theorem sameL_len : ∀ a b : List Item, sameL a b = true → a.length = b.length := fun a b h => by rw [(sameL_iff a b).1 h]
theorem sameL_all (a b : List Item) (h : a.length = b.length) (hs : ∀ j (h1 : j < a.length) (h2 : j < b.length), sameI (a[j]) (b[j]) = true) : sameL a b = true := by
  rw [sameL_iff]
  exact List.ext_getElem h (fun j h1 h2 => (sameI_iff _ _).1 (hs j h1 h2))
theorem sameL_not (a b : List Item) (j : Nat) (h1 : j < a.length) (h2 : j < b.length) (hs : sameI (a[j]) (b[j]) = false) : sameL a b = false := by
  cases h : sameL a b with
  | false => rfl
  | true =>
    have e := (sameL_iff a b).1 h
    subst e
    have : sameI (a[j]) (a[j]) = true := (sameI_iff _ _).2 rfl
    rw [this] at hs
    cases hs
theorem sameL_lens (a b : List Item) (h : a.length ≠ b.length) : sameL a b = false := by
  cases h1 : sameL a b with
  | false => rfl
  | true => exact absurd (sameL_len a b h1) h

set_option maxHeartbeats 2000000 in
theorem sameItems_any (A B : Option Addr) (c d : Nat) (a b : List Item) (W : World) (hA : Row W (.slice A a.length c) a) (hB : Row W (.slice B b.length d) b) :
    Calls Tryz.prog 23 #[.slice A a.length c, .slice B b.length d] W fun e w' => e = .returned (.bool (sameL a b)) ∧ ∃ n, w' = W.drewN n := by
  have hla := hA.len
  have hlb := hB.len
  have HA := Lib.hid hA
  have HB := Lib.hid hB
  obtain ⟨n, hn⟩ : ∃ n, a.length = n := ⟨_, rfl⟩
  obtain ⟨m, hm⟩ : ∃ m, b.length = m := ⟨_, rfl⟩
  have HN := Lib.hid hn
  have HM := Lib.hid hm
  rw [hn] at hla ⊢
  rw [hm] at hlb ⊢
  clear hA hB hn hm
  by_cases hnm : n = m
  · subst hnm
    go_enter Tryz.func23, Tryz.ntmps23
    go_wp2
    go_loopg [5] (n + 1) (fun gh s5 wx => ∃ (i k : Nat), i + gh = n + 1 ∧ i ≤ n ∧ s5 = .int .i64 i ∧ Hid (∀ j (h : j < a.length) (h' : j < b.length), j < i → sameI (a[j]) (b[j]) = true) ∧ wx = W.drewN k)
    case atStart => exact ⟨0, 0, by omega, by omega, rfl, fun j _ _ h => by omega, rfl⟩
    case round =>
      obtain ⟨i, k, hig, hi, rfl, HS, rfl⟩ := hrel
      by_cases hlt : i < n
      · have ha' : i < a.length := by rw [HN.out]; exact hlt
        have hb' : i < b.length := by rw [HM.out]; exact hlt
        obtain ⟨q, rfl⟩ := HA.out.atBlock (by omega)
        obtain ⟨r, rfl⟩ := HB.out.atBlock (by omega)
        have p0 := (HA.out.cellAt (i * 2) (by omega)).trans (itemCells_get0 a i ha')
        have p1 := (HA.out.cellAt (i * 2 + 1) (by omega)).trans (itemCells_get1 a i ha')
        have r0 := (HB.out.cellAt (i * 2) (by omega)).trans (itemCells_get0 b i hb')
        have r1 := (HB.out.cellAt (i * 2 + 1) (by omega)).trans (itemCells_get1 b i hb')
        have hx9 : sameI (a[i]) (b[i]) = ((a[i]).1.toList == (b[i]).1.toList && (a[i]).2.toList == (b[i]).2.toList) := by rw [sameI]
        have HX := Lib.hid hx9
        clear hx9
        generalize (a[i]).1 = x1 at *
        generalize (a[i]).2 = x2 at *
        generalize (b[i]).1 = y1 at *
        generalize (b[i]).2 = y2 at *
        go_upto_region 6 with fail
        cases hb1 : (x1.toList == y1.toList) <;> cases hb2 : (x2.toList == y2.toList)
        all_goals
          go_quiet (fail)
        · go_wp2
          go_ret
          exact ⟨by rw [sameL_not a b i ha' hb' (by rw [HX.out, hb1]; rfl)]; rfl, k + nq, drewN_two _ _ _⟩
        · go_wp2
          go_ret
          exact ⟨by rw [sameL_not a b i ha' hb' (by rw [HX.out, hb1]; rfl)]; rfl, k + nq, drewN_two _ _ _⟩
        · go_wp2
          go_ret
          exact ⟨by rw [sameL_not a b i ha' hb' (by rw [HX.out, hb1, hb2]; rfl)]; rfl, k + nq, drewN_two _ _ _⟩
        · go_wp2
          go_roundg (gk - 1)
          case measure => omega
          case rel =>
            refine ⟨i + 1, k + nq, by omega, by omega, by go_num, fun j h1 h2 hj => ?_, rfl⟩
            rcases Nat.lt_succ_iff_lt_or_eq.1 hj with h | rfl
            · exact HS.out j h1 h2 h
            · rw [HX.out, hb1, hb2]; rfl
      · obtain rfl : i = n := by omega
        go_wp2
        go_ret
        exact ⟨by rw [sameL_all a b (by rw [HN.out, HM.out]) (fun j h1 h2 => HS.out j h1 h2 (by rw [HN.out] at h1; exact h1))]; rfl, k, rfl⟩
  · have hd : ((n : Int) != (m : Int)) = true := by rw [bne_iff_ne]; omega
    have HF := Lib.hid (sameL_lens a b (by rw [HN.out, HM.out]; exact hnm))
    go_enter Tryz.func23, Tryz.ntmps23
    go_wp2
    go_ret
    exact ⟨by rw [HF.out]; rfl, 0, rfl⟩

/-- a list of its own, in new memory -/
def NewItems (W : World) (l : List Item) (e : Ending) (w' : World) : Prop :=
  ∃ A c, e = .returned (.slice A l.length c) ∧ w'.ownsRow W.heap.size 31 2 (.slice A l.length c) l.length (itemCells l) ∧ Below W.heap.size W w'
end Go.Proofs.YthgndgoljchnfaaGreat
