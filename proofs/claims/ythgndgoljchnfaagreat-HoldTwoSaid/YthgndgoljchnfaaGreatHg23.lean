/-
  Rank, At, Count: loops over ways.
  Count: a loop over an arc's way.
  At: a loop over the way through all items.
  Middle: a loop over an arc's way.
  Collect: a loop over whatever way, whose caller keeps a list; the call that waits for a panic meets none.
-/
import Derived.Test.YthgndgoljchnfaaGreatHg14
import Derived.Test.YthgndgoljchnfaaGreatHg15
import Derived.Test.YthgndgoljchnfaaGreatHg22
import Derived.Test.YthgndgoljchnfaaGreatHg05
import Derived.RecoverIn
namespace Go.Proofs.YthgndgoljchnfaaGreat
open Go.RowKit

attribute [local go_sem] Oper.semAt_some

/-- what a pointer to a shelf answers, from W on -/
structure Src (W : World) (p : Option Addr) (l : List Item) : Prop where
  rising : Rising l
  len : l.length ≤ 200
  items : ∀ w, Below W.heap.size W w → Calls Tryz.prog 45 #[.pointer p] w (NewItems w l)
  copy : ∀ w, Below W.heap.size W w → Calls Tryz.prog 84 #[.pointer p] w (CopyGives w l)
end Go.Proofs.YthgndgoljchnfaaGreat
namespace Go.Proofs.YthgndgoljchnfaaGreat
open Go.RowKit

attribute [local go_sem] Oper.semAt_some

theorem arcL_length_le (l : List Item) (f t : Nat) : (arcL l f t).length ≤ 2 * l.length := by
  unfold arcL
  rw [List.length_append]
  have h1 := List.length_filter_le (inA f t false) l
  have h2 := List.length_filter_le (inA f t true) l
  omega
/-- what the call of Arc hands back, as a loop over it wants it -/
def ArcPost (w : World) (p : Option Addr) (f t : Nat) (e : Ending) (w' : World) : Prop :=
  ∃ a0 a1 : Nat, e = .returned (.func (.func 86) #[] #[.pointer (some ⟨a0, 0, none⟩), .pointer (some ⟨a1, 0, none⟩)]) ∧
    w'.cell? ⟨a0, 0, none⟩ = some (.pointer p) ∧ w'.cell? ⟨a1, 0, none⟩ = some (.int .u64 (f : Nat)) ∧ w'.cell? ⟨a1, 1, none⟩ = some (.int .u64 (t : Nat)) ∧ Below w.heap.size w w'
theorem arc_post (p : Option Addr) (f t : Nat) (w : World) : Calls Tryz.prog 54 #[.pointer p, .agg #[.int .u64 (f : Nat), .int .u64 (t : Nat)]] w (ArcPost w p f t) := by
  refine (arc_any p f t w).mono ?_
  rintro e w' ⟨rfl, rfl⟩
  exact ⟨_, _, rfl, by go_simp, by go_simp, by go_simp, ((Below.refl _ w).alloc (Nat.le_refl _) _).alloc (by simp) _⟩

end Go.Proofs.YthgndgoljchnfaaGreat
namespace Go.Proofs.YthgndgoljchnfaaGreat
open Go.RowKit

attribute [local go_sem] Oper.semAt_some

/-- an item in a block of its own -/
structure Var2 (V : World) (b : Nat) (x y : Value) : Prop where
  v0 : V.cell? ⟨b, 0, none⟩ = some x
  v1 : V.cell? ⟨b, 1, none⟩ = some y
  f0 : V.frozen? ⟨b, 0, none⟩ = false
  f1 : V.frozen? ⟨b, 1, none⟩ = false
theorem Var2.lt {V : World} {b : Nat} {x y : Value} (h : Var2 V b x y) : b < V.heap.size := World.block_lt_of_cell? V _ h.v0
theorem Var2.touch {V V1 : World} {b : Nat} {x y : Value} {G : List Nat} (h : Var2 V b x y) (t : Touch G V V1) (hn : b ∉ G) : Var2 V1 b x y :=
  ⟨(t.cell (p := ⟨b, 0, none⟩) h.lt hn).trans h.v0, (t.cell (p := ⟨b, 1, none⟩) h.lt hn).trans h.v1, (t.frozen (p := ⟨b, 0, none⟩) h.lt hn).trans h.f0, (t.frozen (p := ⟨b, 1, none⟩) h.lt hn).trans h.f1⟩
theorem Var2.new (W : World) (x y : Value) (t : TypeId) : Var2 (W.alloc (.cells #[x, y] t)) W.heap.size x y := ⟨by go_simp, by go_simp, by go_simp, by go_simp⟩
theorem Var2.set {V : World} {b : Nat} {x y : Value} (h : Var2 V b x y) (u v : Value) : Var2 ((V.setCell ⟨b, 0, none⟩ u).setCell ⟨b, 1, none⟩ v) b u v :=
  ⟨by rw [World.cell?_setCell_other _ _ _ _ (by simp)]; exact World.cell?_setCell_same _ _ _ h.v0,
   World.cell?_setCell_same _ _ _ (by rw [World.cell?_setCell_other _ _ _ _ (by simp)]; exact h.v1),
   by rw [World.frozen?_setCell, World.frozen?_setCell]; exact h.f0, by rw [World.frozen?_setCell, World.frozen?_setCell]; exact h.f1⟩
theorem Var2.other {V : World} {b c : Nat} {x y : Value} (h : Var2 V b x y) (hn : b ≠ c) (o : Nat) (u : Value) : Var2 (V.setCell ⟨c, o, none⟩ u) b x y :=
  h.touch (G := [c]) ((Touch.refl _ _).set (.inl (by simp)) u) (by simpa using hn)
theorem Var2.below {V V1 : World} {b : Nat} {x y : Value} (h : Var2 V b x y) (t : Below V.heap.size V V1) : Var2 V1 b x y := h.touch (Touch.ofBelow (F := []) t) (by simp)
theorem Var2.old {W : World} {b : Nat} {x y : Value} (h : Var2 W b x y) (o : Obj) : Var2 (W.alloc o) b x y := h.below ((Below.refl _ _).alloc (Nat.le_refl _) _)

end Go.Proofs.YthgndgoljchnfaaGreat
namespace Go.Proofs.YthgndgoljchnfaaGreat
open Go.RowKit

attribute [local go_sem] Oper.semAt_some

end Go.Proofs.YthgndgoljchnfaaGreat
namespace Go.Proofs.YthgndgoljchnfaaGreat
open Go.RowKit

attribute [local go_sem] Oper.semAt_some

/-- append within a round -/
theorem wpListIn_append_any {F : Fence} {d : Nat} {P : Program} {w : World} {ops : Array Oper} {rest : List Oper} {o : Oper} {a : Act} {Q : Exit → Act → World → Prop} (hg : o.guard = none) (s x : Operand) (t : TypeId)
    (ho : o.op = .call { callee := .builtin .append, args := #[s, x], argTypes := #[t, t] })
    (base : Nat) (e : TypeId) (i : TypeInfo) (z : Value) (size bytes : Nat) (ht : P.underlying t = some (.slice e)) (hi : P.info? e = some i) (hz : i.zero = some z)
    (hsize : i.size = size) (hby : i.bytes = bytes) (hzs : z.cells.size = size) (hsz : 0 < size)
    (v : Value) (n : Nat) (xs : List Value) (hs : a.eval s = v) (hown : w.ownsRow base e size v n xs)
    (y : Value) (m : Nat) (news : List Value) (hx : a.eval x = y) (hsrc : From w size y m news) (h1 : ∀ u ∈ news, u.oneCell' = true)
    (h63 : n + m ≤ maxLen) (hbytes : (n + m) * bytes ≤ 140737488355328) (hbase : base ≤ w.heap.size)
    (h : ∀ A c w', w'.ownsRow base e size (.slice A (n + m) c) (n + m) (xs ++ news) → w.grownBy w' v.ownBlock → SameOrNew w v (.slice A (n + m) c) → wpListIn F d P ops Q rest (a.put o.dst (.slice A (n + m) c)) w') : wpListIn F d P ops Q (o :: rest) a w := by
  refine wpListIn_plain hg fun K hK => ?_
  obtain ⟨v', w', hr, h2, h3, h4⟩ := run_append_any (P := P) w base t o.type e i z size bytes ht hi hz hsize hby hzs hsz v n xs hown y m news hsrc h1 h63 hbytes hbase
  obtain ⟨A, c, rfl⟩ := own_slice h2
  refine ⟨by simp [Oper.about, ho, resolve, Target.leads, Sem.run_pure], ?_⟩
  rw [Oper.semAt_plain F _ _ (by rw [ho]; intro c hc; cases hc)]
  simp only [execOp, ho, resolve, invoke, builtin, Sem.run_bind, Sem.run_pure, Result.andThen_ok, List.map_toArray, List.map_cons, List.map_nil, hs, hx, hr]
  exact hK _ _ (h A c w' h2 h3 h4)

end Go.Proofs.YthgndgoljchnfaaGreat
