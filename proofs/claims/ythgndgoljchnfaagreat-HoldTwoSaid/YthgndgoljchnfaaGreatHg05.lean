/-
  A way through items as its caller sees it (WayIn), whatever is called with each of them: a closure, or the body of a range over a function (YV); the range over such a way (wp_ways): what its body and its caller know is said by the blocks that they name.
  What ways through something, and those who go them, lean on: what is left of a world (Left), a variable in a block of its own (Var), functions against nil; a way through elements of any kind (WayY), and the range over it (wp_seq).
  Structs within a row: written cell by cell (setAll), loaded where the load is guarded. (setAll .. row_there as in LbBase, which has them for itself.) No program is named here.
  The walks of arc.Apart, arc.Split, arc.Join.
  append onto what the call owns, from any source, the nil slice too. No program is named here.
-/
import Derived.Test.YthgndgoljchnfaaGreatHg03
import Derived.Test.YthgndgoljchnfaaGreatHg04
import Derived.Test.YthgndgoljchnfaaGreatHg02
import Derived.RangeFuncNested
import Derived.RangeFuncBound
import Derived.Shelf.Abstract
import Derived.Shelf.RegionOpen
import Derived.WalkKit
import Derived.OwnWalkIn
import Derived.TacticsInMore
import Derived.LoopNIn
import Derived.LoopIn
import Derived.Deep.MidRow
import Derived.RegionTactic
import Derived.ChangeAlike
namespace Go.Proofs.YthgndgoljchnfaaGreat
open Go.RowKit

theorem Touch.put {F : List Nat} {a b : World} (h : Touch F a b) {l : Nat} (hl : l ∈ F ∨ a.heap.size ≤ l) (o : Obj) : Touch F a (b.putObj l o) :=
  h.grown (grownBy_putObj' b l o) (fun k e => by cases e; exact hl)

/-- a call of what a way was given -/
def YV (yv : Value) (args : Array Value) (w : World) (R : Ending → World → Prop) : Prop :=
  (∃ y yf yc, yv = .func (.func y) yf yc ∧ (∀ a w, (callFunc y a).run Tryz.prog w = .ok (.enter y a) w) ∧ Calls Tryz.prog y (yf ++ args ++ yc) w R) ∨
  (∃ l, yv = .func (.yield l) #[] #[] ∧ YieldAt Fence.wide 0 Tryz.prog l args w R)
theorem RoundIn.deep {P : Program} {n m l f : Nat} {tmps : Array Value} {assign body : Code} {w : World} {R : Ending → World → Prop} (h : RoundIn Fence.wide n P l f tmps assign body w R) : RoundIn Fence.wide m P l f tmps assign body w R :=
  ⟨h.1, fun c cs _ => h.2 c cs (room_wide _)⟩
theorem YieldAt.deep {P : Program} {n m l : Nat} {args : Array Value} {w : World} {R : Ending → World → Prop} (h : YieldAt Fence.wide n P l args w R) : YieldAt Fence.wide m P l args w R := by
  obtain ⟨a, b, c, d, e, f⟩ := h
  exact ⟨a, b, c, d, e, RoundIn.deep f⟩
theorem YV.mono {yv : Value} {args : Array Value} {w : World} {R R' : Ending → World → Prop} (h : YV yv args w R) (hr : ∀ e w', R e w' → R' e w') : YV yv args w R' := by
  rcases h with ⟨y, yf, yc, h1, h2, h3⟩ | ⟨l, h1, a, b, c, d, e, f⟩
  · exact .inl ⟨y, yf, yc, h1, h2, h3.mono hr⟩
  · exact .inr ⟨l, h1, a, b, c, d, e, f.mono hr⟩
/-- what was done: it wrote blocks that Y names and B does not; what is known behind it is of Y, or new -/
def Left (B Y : List Nat) (w w' : World) (Y' : List Nat) : Prop := (∃ G, Touch G w w' ∧ ∀ q ∈ G, q ∈ Y ∧ q ∉ B) ∧ ∀ q ∈ Y', q < w'.heap.size ∧ (q ∈ Y ∨ w.heap.size ≤ q)
def Abid (J : World → List Nat → Prop) : Prop := ∀ w w1 Y G, J w Y → Touch G w w1 → (∀ q ∈ Y, q ∉ G) → J w1 Y
theorem Left.size {B Y Y' : List Nat} {w w' : World} (h : Left B Y w w' Y') : w.heap.size ≤ w'.heap.size := by
  obtain ⟨⟨G, h, _⟩, _⟩ := h
  exact h.size
theorem Left.refl {B Y : List Nat} {w : World} (h : ∀ q ∈ Y, q < w.heap.size) : Left B Y w w Y := ⟨⟨[], Touch.refl _ _, by simp⟩, fun q hq => ⟨h q hq, .inl hq⟩⟩
theorem Left.trans {B Y Y' Y'' : List Nat} {a b c : World} (h : Left B Y a b Y') (k : Left B Y' b c Y'') : Left B Y a c Y'' := by
  have hs := h.size
  obtain ⟨⟨G, h1, h2⟩, h3⟩ := h
  obtain ⟨⟨G', k1, k2⟩, k3⟩ := k
  refine ⟨⟨G ++ G'.filter (fun q => decide (q < a.heap.size)), h1.mono (fun x hx => List.mem_append_left _ hx) |>.trans k1 ?_, ?_⟩, ?_⟩
  · intro x hx
    by_cases z : x < a.heap.size
    · exact .inl (List.mem_append_right _ (List.mem_filter.2 ⟨hx, by simpa using z⟩))
    · exact .inr (by omega)
  · intro q hq
    rcases List.mem_append.1 hq with z | z
    · exact h2 q z
    · obtain ⟨z1, z2⟩ := List.mem_filter.1 z
      have z2 := of_decide_eq_true z2
      obtain ⟨y1, y2⟩ := k2 q z1
      rcases (h3 q y1).2 with x | x
      · exact ⟨x, y2⟩
      · omega
  · intro q hq
    obtain ⟨z1, z2⟩ := k3 q hq
    refine ⟨z1, ?_⟩
    rcases z2 with z | z
    · exact (h3 q z).2
    · exact .inr (by omega)
/-- behind something that made memory alone -/
theorem Left.after {B Y Y' : List Nat} {a b c : World} (h : Below a.heap.size a b) (k : Left B Y b c Y') : Left B Y a c Y' := by
  obtain ⟨⟨G, k1, k2⟩, k3⟩ := k
  refine ⟨⟨G, (Touch.ofBelow (F := G) h).trans k1 (fun x hx => .inl hx), k2⟩, fun q hq => ?_⟩
  obtain ⟨z1, z2⟩ := k3 q hq
  have := h.size
  exact ⟨z1, z2.imp id (fun z => by omega)⟩

/-- the function i, with what it has captured, goes through xs: what it is given is called with each item in turn, till it says no. B: the blocks that the way reads in between. J: what holds between two calls, Q: behind the one that said no, of the blocks Y that the caller knows. -/
def WayIn (i : Nat) (lb : Array Value) (xs : List Item) (B : List Nat) (W : World) : Prop :=
  ∀ (fn : Fn) (yf yc : Array Value) (J : Nat → World → List Nat → Prop) (Q : World → List Nat → Prop) (Y0 : List Nat), (∀ q ∈ Y0, q < W.heap.size) → J 0 W Y0 → (∀ n, Abid (J n)) → Abid Q →
    (∀ n x w Y, xs[n]? = some x → J n w Y → (∀ q ∈ Y, q < w.heap.size) → YV (.func fn yf yc) #[.string x.1, .string x.2] w fun e w' =>
      ∃ Y', Left B Y w w' Y' ∧ ((e = .returned (.bool true) ∧ J (n + 1) w' Y') ∨ (e = .returned (.bool false) ∧ Q w' Y'))) →
    Calls Tryz.prog i (#[.func fn yf yc] ++ lb) W fun e w' => e = .returned (.tuple #[]) ∧ ∃ Y, Left B Y0 W w' Y ∧ (J xs.length w' Y ∨ Q w' Y)

/-- how the body of a round may be left -/
def leftPost (B Y : List Nat) (W : World) (I : World → List Nat → Prop) (Ix : Code → World → List Nat → Prop) : Exit → Act → World → Prop
  | .normal, _, W' => ∃ Y', Left B Y W W' Y' ∧ I W' Y'
  | .ret, _, W' => ∃ Y', Left B Y W W' Y' ∧ Ix .ret W' Y'
  | .exit id, _, W' => ∃ Y', Left B Y W W' Y' ∧ Ix (.exit id) W' Y'
  | .goto t, _, W' => ∃ Y', Left B Y W W' Y' ∧ Ix (.goto t) W' Y'
  | .panic _, _, _ => False
  | .outgrown, _, _ => False

/-- a range over a way, whose own loop stands in no other's body -/
theorem wp_ways {g : Operand} {ps : Array Tmp} {assign body : Code} {Q : Exit → Act → World → Prop} {a : Act} {w : World} {gf : Nat} {lb : Array Value}
    (hg : a.eval g = .func (.func gf) #[] lb) (eg : ∀ args w, (callFunc gf args).run Tryz.prog w = .ok (.enter gf args) w) {xs : List Item} {B : List Nat}
    (hw : ∀ W, Below w.heap.size w W → WayIn gf lb xs B W) (hB : ∀ q ∈ B, q < w.heap.size) (hps : ps.size = 2)
    (I : Nat → World → List Nat → Prop) (Ix : Code → World → List Nat → Prop) (Y0 : List Nat) (hY0 : ∀ q ∈ Y0, q < w.heap.size) (h0 : I 0 w Y0) (hI : ∀ n, Abid (I n)) (hIx : ∀ c, Abid (Ix c)) (a₁ : Item → Act)
    (hassign : ∀ (l : Nat) (x : Item) (W : World) (K : Act → World → Prop), K (a₁ x) W →
      assign.wpIn (Fence.wide.inRound l) 0 Tryz.prog (Exit.then K (fun _ _ _ => False)) { tmps := (ps.zip #[.string x.1, .string x.2]).foldl (fun t (p, v) => t.setIfInBounds p v) a.tmps, defers := [] } W)
    (hbody : ∀ (l n : Nat) (x : Item) (W : World) (Y : List Nat), w.heap.size ≤ W.heap.size → xs[n]? = some x → I n W Y → (∀ q ∈ Y, q < W.heap.size) → body.wpIn (Fence.wide.inRound l) 0 Tryz.prog (leftPost B Y W (I (n + 1)) Ix) (a₁ x) W)
    (hdone : ∀ (D : Nat) (W : World) (Y : List Nat), w.heap.size ≤ D → D ∉ Y → Left B Y0 w W Y → I xs.length W Y → W.heap[D]? = some (.deferred (some [])) → Q .normal { a with defers := { target := .collected D, args := #[] } :: a.defers } W)
    (hstop : ∀ (D : Nat) (c : Code) (W : World) (Y : List Nat), w.heap.size ≤ D → D ∉ Y → Left B Y0 w W Y → Ix c W Y → W.heap[D]? = some (.deferred (some [])) → c.wpIn Fence.wide 0 Tryz.prog Q { a with defers := { target := .collected D, args := #[] } :: a.defers } W) :
    (Code.rangeFunc g ps assign body).wpIn Fence.wide 0 Tryz.prog Q a w := by
  refine wpIn_rangeFunc fun fn hfn => ?_
  obtain ⟨rec, hrec⟩ : ∃ rec : LoopState → Option Code → Loop, rec = fun st pe => { state := st, pending := pe, fn, tmps := a.tmps, params := ps, assign, body, defers := w.heap.size } := ⟨_, rfl⟩
  obtain ⟨D, hD⟩ : ∃ D, D = w.heap.size := ⟨_, rfl⟩
  obtain ⟨W1, hW1⟩ : ∃ W1, (w.alloc (.deferred (some []))).alloc (.loop (rec .ready none)) = W1 := ⟨_, rfl⟩
  have b1 : Below w.heap.size w W1 := by
    rw [← hW1]; exact ((Below.refl _ w).alloc (Nat.le_refl _) _).alloc (by simp) _
  have s1 : W1.heap.size = D + 2 := by rw [← hW1, hD]; simp
  have l1 : W1.heap[D + 1]? = some (.loop (rec .ready none)) := by
    rw [← hW1, hD]
    have := World.alloc_heap_new (w.alloc (.deferred (some []))) (.loop (rec .ready none))
    rwa [World.size_alloc] at this
  have k1 : W1.heap[D]? = some (.deferred (some [])) := by
    rw [← hW1, hD]
    exact (Below.heap_alloc _ _ _ (by simp)).trans (World.alloc_heap_new w _)
  have i1 : I 0 W1 Y0 := hI 0 w W1 Y0 [] h0 (Touch.ofBelow b1) (by simp)
  have hBD : ∀ q ∈ B, q < D := fun q hq => hD ▸ hB q hq
  have hYD : ∀ q ∈ Y0, q < D := fun q hq => hD ▸ hY0 q hq
  -- what the caller's world is between two rounds, with the loop's own two blocks
  obtain ⟨T, hT⟩ : ∃ T : LoopState → Option Code → World → Prop, T = fun st pe W => W.heap[D + 1]? = some (.loop (rec st pe)) ∧ W.heap[D]? = some (.deferred (some [])) := ⟨_, rfl⟩
  have hTa : ∀ {st pe W W' G}, T st pe W → Touch G W W' → D ∉ G → D + 1 ∉ G → T st pe W' := by
    intro st pe W W' G h t n1 n2
    rw [hT] at h ⊢
    exact ⟨(t.block _ (Array.getElem?_eq_some_iff.1 h.1).1 n2).trans h.1, (t.block _ (Array.getElem?_eq_some_iff.1 h.2).1 n1).trans h.2⟩
  have hWay := hw W1 b1 (.yield (D + 1)) #[] #[]
    (fun n W Y => ∃ Y1, Y = D :: (D + 1) :: Y1 ∧ D ∉ Y1 ∧ D + 1 ∉ Y1 ∧ I n W Y1 ∧ T .ready none W)
    (fun W Y => ∃ Y1 c, Y = D :: (D + 1) :: Y1 ∧ D ∉ Y1 ∧ D + 1 ∉ Y1 ∧ Ix c W Y1 ∧ T .done (some c) W)
    (D :: (D + 1) :: Y0) (by
      intro q hq
      rw [s1]
      simp at hq
      rcases hq with h | h | h
      · omega
      · omega
      · have := hYD q h; omega)
    ⟨Y0, rfl, fun h => by have := hYD _ h; omega, fun h => by have := hYD _ h; omega, i1, by rw [hT]; exact ⟨l1, k1⟩⟩
    (fun n W W' Y G ⟨Y1, e, n1, n2, h1, h2⟩ t hn => by
      subst e
      exact ⟨Y1, rfl, n1, n2, hI n W W' Y1 G h1 t (fun q hq => hn q (by simp [hq])), hTa h2 t (hn D (by simp)) (hn (D + 1) (by simp))⟩)
    (fun W W' Y G ⟨Y1, c, e, n1, n2, h1, h2⟩ t hn => by
      subst e
      exact ⟨Y1, c, rfl, n1, n2, hIx c W W' Y1 G h1 t (fun q hq => hn q (by simp [hq])), hTa h2 t (hn D (by simp)) (hn (D + 1) (by simp))⟩)
    (by
      -- one round
      rintro n x W Y hx ⟨Y1, rfl, n1, n2, hi, ht⟩ hY
      have ht0 := ht
      rw [hT] at ht
      obtain ⟨hl, hk⟩ := ht
      have hlt : D + 1 < W.heap.size := (Array.getElem?_eq_some_iff.1 hl).1
      have hy := run_yield (P := Tryz.prog) (args := #[.string x.1, .string x.2]) hl (by rw [hrec]; exact hps.symm)
      rw [hrec] at hy
      refine .inr ⟨D + 1, rfl, fn, _, assign, body, hy, roundIn_of_wpIn hfn (hassign _ x W _ ⟨_, run_beginRound hl (by rw [hrec]), ?_⟩)⟩
      obtain ⟨V, hV⟩ : ∃ V, V = W.putObj (D + 1) (.loop { rec .ready none with state := .busy }) := ⟨_, rfl⟩
      have t2 : Touch [D + 1] W V := by rw [hV]; exact (Touch.refl _ _).put (.inl (by simp)) _
      have sV : V.heap.size = W.heap.size := by rw [hV]; simp
      have l2 : V.heap[D + 1]? = some (.loop { rec .ready none with state := .busy }) := by rw [hV]; exact World.putObj_heap_same hlt
      have k2 : V.heap[D]? = some (.deferred (some [])) := by rw [hV]; exact (World.putObj_heap_other (by omega)).trans hk
      have i2 : I n V Y1 := hI n W V Y1 _ hi t2 (fun q hq e => by simp at e; exact n2 (e ▸ hq))
      rw [← hV]
      have y2 : ∀ q ∈ Y1, q < V.heap.size := fun q hq => by rw [sV]; exact hY q (by simp [hq])
      refine wpIn_mono (hbody _ n x V Y1 (by rw [sV]; omega) hx i2 y2) ?_
      have fin : ∀ (jump : Option Code) (W3 : World) (Y3 : List Nat), Left B Y1 V W3 Y3 →
          (Instr.endRound (D + 1) jump).run Tryz.prog W3 = .ok (.bool jump.isNone) (W3.putObj (D + 1) (.loop (rec (if jump.isNone then .ready else .done) jump))) ∧
          Touch [D + 1] W3 (W3.putObj (D + 1) (.loop (rec (if jump.isNone then .ready else .done) jump))) ∧ D ∉ Y3 ∧ D + 1 ∉ Y3 ∧
          T (if jump.isNone then .ready else .done) jump (W3.putObj (D + 1) (.loop (rec (if jump.isNone then .ready else .done) jump))) ∧
          Left B (D :: (D + 1) :: Y1) W (W3.putObj (D + 1) (.loop (rec (if jump.isNone then .ready else .done) jump))) (D :: (D + 1) :: Y3) := by
        intro jump W3 Y3 h3
        have hs3 := h3.size
        obtain ⟨⟨G, t3, g3⟩, y3⟩ := h3
        have d1 : D ∉ G := fun h => n1 (g3 _ h).1
        have d2 : D + 1 ∉ G := fun h => n2 (g3 _ h).1
        have l3 : W3.heap[D + 1]? = some (.loop { rec .ready none with state := .busy }) := (t3.block _ (by omega) d2).trans l2
        have k3 : W3.heap[D]? = some (.deferred (some [])) := (t3.block _ (by omega) d1).trans k2
        have e1 : D ∉ Y3 := fun h => by
          rcases (y3 _ h).2 with z | z
          · exact n1 z
          · omega
        have e2 : D + 1 ∉ Y3 := fun h => by
          rcases (y3 _ h).2 with z | z
          · exact n2 z
          · omega
        have hr := run_endRound (P := Tryz.prog) jump l3
        rw [hrec] at hr ⊢
        refine ⟨hr, (Touch.refl _ _).put (.inl (by simp)) _, e1, e2, by rw [hT, hrec]; exact ⟨World.putObj_heap_same (by omega), (World.putObj_heap_other (by omega)).trans k3⟩, ⟨(D + 1) :: G, ?_, ?_⟩, ?_⟩
        · exact ((t2.mono (G := (D + 1) :: G) (fun x hx => by simp at hx; simp [hx])).trans t3 (fun x hx => .inl (by simp [hx]))).put (.inl (by simp)) _
        · intro q hq
          rcases List.mem_cons.1 hq with rfl | z
          · exact ⟨by simp, fun hb => by have := hBD _ hb; omega⟩
          · exact ⟨by simp [(g3 q z).1], (g3 q z).2⟩
        · intro q hq
          simp only [World.putObj_size]
          simp at hq
          rcases hq with rfl | rfl | z
          · exact ⟨by omega, .inl (by simp)⟩
          · exact ⟨by omega, .inl (by simp)⟩
          · obtain ⟨z1, z2⟩ := y3 q z
            exact ⟨z1, z2.imp (fun z => by simp [z]) (fun z => by omega)⟩
      rintro e a3 W3 hp
      cases e with
      | normal =>
        obtain ⟨Y3, h3, i3⟩ := hp
        obtain ⟨f1, f2, f3, f4, f5, f6⟩ := fin none W3 Y3 h3
        exact ⟨_, _, f1, _, f6, .inl ⟨rfl, Y3, rfl, f3, f4, hI _ _ _ _ _ i3 f2 (fun q hq e => by simp at e; exact f4 (e ▸ hq)), f5⟩⟩
      | ret =>
        obtain ⟨Y3, h3, i3⟩ := hp
        obtain ⟨f1, f2, f3, f4, f5, f6⟩ := fin (some .ret) W3 Y3 h3
        exact ⟨_, _, f1, _, f6, .inr ⟨rfl, Y3, _, rfl, f3, f4, hIx _ _ _ _ _ i3 f2 (fun q hq e => by simp at e; exact f4 (e ▸ hq)), f5⟩⟩
      | exit id =>
        obtain ⟨Y3, h3, i3⟩ := hp
        obtain ⟨f1, f2, f3, f4, f5, f6⟩ := fin (some (.exit id)) W3 Y3 h3
        exact ⟨_, _, f1, _, f6, .inr ⟨rfl, Y3, _, rfl, f3, f4, hIx _ _ _ _ _ i3 f2 (fun q hq e => by simp at e; exact f4 (e ▸ hq)), f5⟩⟩
      | goto t =>
        obtain ⟨Y3, h3, i3⟩ := hp
        obtain ⟨f1, f2, f3, f4, f5, f6⟩ := fin (some (.goto t)) W3 Y3 h3
        exact ⟨_, _, f1, _, f6, .inr ⟨rfl, Y3, _, rfl, f3, f4, hIx _ _ _ _ _ i3 f2 (fun q hq e => by simp at e; exact f4 (e ▸ hq)), f5⟩⟩
      | panic ch => exact hp.elim
      | outgrown => exact hp.elim)
  refine ⟨D + 1, [{ target := .collected D, args := #[] }], W1, { target := .fn (.func gf) lb, args := #[.func (.yield (D + 1)) #[] #[]] }, W1, gf, #[.func (.yield (D + 1)) #[] #[]] ++ lb, W1, ?_, ?_, fun _ _ => trivial, ?_, (fun h => by simp [Fence.wide] at h), ?_⟩
  · rw [← hW1, hrec, hD]
    exact run_enterLoop_outer _ _ _ _ _
  · simp only [resolve, hg]
    simp [go_sem]
  · simp [invoke, go_sem, eg]
  · refine (callsIn_wide.2 hWay).mono ?_
    have back : ∀ {W2 Y1 o}, Left B (D :: (D + 1) :: Y0) W1 W2 (D :: (D + 1) :: Y1) → D ∉ Y1 → D + 1 ∉ Y1 → Touch [D + 1] W2 (W2.putObj (D + 1) o) ∧ Left B Y0 w (W2.putObj (D + 1) o) Y1 := by
      intro W2 Y1 o h n1 n2
      have hs := h.size
      obtain ⟨⟨G, t, hG⟩, hY⟩ := h
      refine ⟨(Touch.refl _ _).put (.inl (by simp)) _, ⟨G.filter (fun q => decide (q < D)), ?_, ?_⟩, ?_⟩
      · have z : Touch (G.filter (fun q => decide (q < D))) w W2 := (Touch.ofBelow b1).trans t (fun x hx => by
          by_cases z : x < D
          · exact .inl (List.mem_filter.2 ⟨hx, by simpa using z⟩)
          · exact .inr (by omega))
        exact z.put (.inr (by omega)) _
      · intro q hq
        obtain ⟨z1, z2⟩ := List.mem_filter.1 hq
        have z2 := of_decide_eq_true z2
        obtain ⟨y1, y2⟩ := hG q z1
        simp at y1
        rcases y1 with y | y | y
        · omega
        · omega
        · exact ⟨y, y2⟩
      · intro q hq
        obtain ⟨z1, z2⟩ := hY q (by simp [hq])
        refine ⟨by simpa using z1, ?_⟩
        rcases z2 with z | z
        · simp at z
          rcases z with rfl | rfl | z
          · exact absurd hq n1
          · exact absurd hq n2
          · exact .inl z
        · exact .inr (by omega)
    rintro e W2 ⟨rfl, Y, hL, (⟨Y1, rfl, n1, n2, hi, ht⟩ | ⟨Y1, c, rfl, n1, n2, hi, ht⟩)⟩
    · rw [hT] at ht
      obtain ⟨b2, b3⟩ := back (o := .loop { rec .ready none with state := .exhausted }) hL n1 n2
      have h9 := run_endLoop (P := Tryz.prog) ht.1 (by rw [hrec]; simp)
      refine ⟨none, _, by rw [hrec] at h9; exact h9, ?_⟩
      rw [hrec] at b2 b3
      exact hdone D _ Y1 (by omega) n1 b3 (hI _ _ _ _ _ hi b2 (fun q hq e => by simp at e; exact n2 (e ▸ hq))) ((World.putObj_heap_other (by omega)).trans ht.2)
    · rw [hT] at ht
      obtain ⟨b2, b3⟩ := back (o := .loop { rec .done (some c) with state := .exhausted }) hL n1 n2
      have h9 := run_endLoop (P := Tryz.prog) ht.1 (by rw [hrec]; simp)
      refine ⟨some c, _, by rw [hrec] at h9; exact h9, ?_⟩
      rw [hrec] at b2 b3
      exact hstop D c _ Y1 (by omega) n1 b3 (hIx _ _ _ _ _ hi b2 (fun q hq e => by simp at e; exact n2 (e ▸ hq))) ((World.putObj_heap_other (by omega)).trans ht.2)
end Go.Proofs.YthgndgoljchnfaaGreat
namespace Go.Proofs.YthgndgoljchnfaaGreat
open Go.RowKit

theorem run_equalIn_func_nil {P : Program} (w : World) (d : Nat) (t : TypeId) (fn : Fn) (fi ca : Array Value) {a b : Array TypeId} {c : Bool} (h : P.underlying t = some (.func a b c)) : (Op.equalIn (d + 1) t (.func fn fi ca) .nilFunc).run P w = .ok false w := by
  simp [Op.equalIn, run_underlying h]
theorem run_equal_func_nil {P : Program} (w : World) (t : TypeId) (fn : Fn) (fi ca : Array Value) {a b : Array TypeId} {c : Bool} (h : P.underlying t = some (.func a b c)) : (Op.equal t (.func fn fi ca) .nilFunc).run P w = .ok false w := run_equalIn_func_nil w 9999 t fn fi ca h
theorem run_neq_func {P : Program} (w : World) (t : TypeId) (fn : Fn) (fi ca : Array Value) {a b : Array TypeId} {c : Bool} (h : P.underlying t = some (.func a b c)) :
    (binOp .neq t (.func fn fi ca) .nilFunc).run P w = .ok (.bool true) w := by
  simp only [binOp]
  simp [run_equal_func_nil w t fn fi ca h]
/-- a block that the caller does not know, and that is there, stays so over whatever the caller does -/
theorem Left.away {B Y Y' : List Nat} {w w' : World} (h : Left B Y w w' Y') {q : Nat} (hq : q < w.heap.size) (hn : q ∉ Y) : q < w'.heap.size ∧ q ∉ Y' ∧ w'.heap[q]? = w.heap[q]? := by
  have hs := h.size
  obtain ⟨⟨G, t, hG⟩, hY⟩ := h
  refine ⟨by omega, fun z => ?_, t.block q hq (fun z => hn (hG q z).1)⟩
  rcases (hY q z).2 with z | z
  · exact hn z
  · omega
/-- such a row -/
theorem Left.row {B Y Y' : List Nat} {w w' : World} (h : Left B Y w w' Y') {base e size n : Nat} {v : Value} {xs : List Value} (hr : w.ownsRow base e size v n xs) (hn : ∀ q, v.ownBlock = some q → q ∉ Y) :
    w'.ownsRow base e size v n xs ∧ ∀ q, v.ownBlock = some q → q ∉ Y' := by
  have h0 := h
  obtain ⟨⟨G, t, hG⟩, hY⟩ := h
  exact ⟨t.row hr (fun q hq z => hn q hq (hG q z).1), fun q hq => (h0.away (hr.lt q hq).2 (hn q hq)).2.1⟩
/-- such a cell -/
theorem Left.cell {B Y Y' : List Nat} {w w' : World} (h : Left B Y w w' Y') {p : Addr} {v : Value} (hc : w.cell? p = some v) (hn : p.block ∉ Y) : w'.cell? p = some v ∧ p.block ∉ Y' := by
  have := h.away (World.block_lt_of_cell? w p hc) hn
  exact ⟨(World.cell?_of_block this.2.2).trans hc, this.2.1⟩
/-- a cell of B stays too -/
theorem Left.cellB {B Y Y' : List Nat} {w w' : World} (h : Left B Y w w' Y') {p : Addr} {v : Value} (hc : w.cell? p = some v) (hn : p.block ∈ B) : w'.cell? p = some v := by
  obtain ⟨⟨G, t, hG⟩, hY⟩ := h
  exact (t.cell (World.block_lt_of_cell? w p hc) (fun z => (hG _ z).2 hn)).trans hc
/-- what the caller knows, with blocks beside -/
theorem Left.more {B Y Y' Z : List Nat} {w w' : World} (h : Left B Y w w' Y') (hZ : ∀ q ∈ Z, q < w.heap.size) : Left B (Z ++ Y) w w' (Z ++ Y') := by
  have hs := h.size
  obtain ⟨⟨G, t, hG⟩, hY⟩ := h
  refine ⟨⟨G, t, fun q hq => ⟨List.mem_append_right _ (hG q hq).1, (hG q hq).2⟩⟩, fun q hq => ?_⟩
  rcases List.mem_append.1 hq with z | z
  · exact ⟨by have := hZ q z; omega, .inl (List.mem_append_left _ z)⟩
  · exact ⟨(hY q z).1, (hY q z).2.imp (fun z => List.mem_append_right _ z) id⟩
/-- and without them again: they are new, or of B -/
theorem Left.less {B Y Y' Z : List Nat} {W w w' : World} (hb : Below W.heap.size W w) (h : Left B (Z ++ Y) w w' (Z ++ Y')) (hZ : ∀ q ∈ Z, q ∈ B ∨ W.heap.size ≤ q) (hd : ∀ q ∈ Y', q ∈ Y ∨ W.heap.size ≤ q) : Left B Y W w' Y' := by
  have hs := hb.size
  obtain ⟨⟨G, t, hG⟩, hY⟩ := h
  refine ⟨⟨G.filter (fun q => decide (q < W.heap.size)), (Touch.ofBelow hb).trans t (fun x hx => ?_), fun q hq => ?_⟩, fun q hq => ⟨(hY q (List.mem_append_right _ hq)).1, hd q hq⟩⟩
  · by_cases z : x < W.heap.size
    · exact .inl (List.mem_filter.2 ⟨hx, by simpa using z⟩)
    · exact .inr (by omega)
  · obtain ⟨z1, z2⟩ := List.mem_filter.1 hq
    have z2 := of_decide_eq_true z2
    obtain ⟨y1, y2⟩ := hG q z1
    rcases List.mem_append.1 y1 with z | z
    · rcases hZ q z with x | x
      · exact absurd x y2
      · omega
    · exact ⟨z, y2⟩
/-- a block that is new is turned -/
theorem Left.put {B Y Y' : List Nat} {W w : World} (h : Left B Y W w Y') {l : Nat} (o : Obj) (hl : W.heap.size ≤ l) : Left B Y W (w.putObj l o) Y' := by
  obtain ⟨⟨G, t, hG⟩, hY⟩ := h
  exact ⟨⟨G, t.put (.inr hl) o, hG⟩, fun q hq => by simpa using hY q hq⟩
/-- a mark of a range over a function, among the deferred calls -/
abbrev mark (D : Nat) : Deferred := { target := .collected D, args := #[] }
/-- blocks that the caller does not know stay too -/
theorem Left.guard {B C Y Y' : List Nat} {w w' : World} (h : Left B Y w w' Y') (hC : ∀ q ∈ C, q ∉ Y) : Left (C ++ B) Y w w' Y' := by
  obtain ⟨⟨G, t, hG⟩, hY⟩ := h
  exact ⟨⟨G, t, fun q hq => ⟨(hG q hq).1, fun z => (List.mem_append.1 z).elim (fun z => hC q z (hG q hq).1) (hG q hq).2⟩⟩, hY⟩
theorem Left.unguard {B C Y Y' : List Nat} {w w' : World} (h : Left (C ++ B) Y w w' Y') : Left B Y w w' Y' := by
  obtain ⟨⟨G, t, hG⟩, hY⟩ := h
  exact ⟨⟨G, t, fun q hq => ⟨(hG q hq).1, fun z => (hG q hq).2 (List.mem_append_right _ z)⟩⟩, hY⟩
theorem Left.turn {B Y Y' Ds : List Nat} {W w w' : World} (h : Left B Y W w Y') (t : Touch Ds w w') (hD : ∀ q ∈ Ds, W.heap.size ≤ q) : Left B Y W w' Y' := by
  have hs := t.size
  obtain ⟨⟨G, t0, hG⟩, hY⟩ := h
  exact ⟨⟨G, t0.trans t (fun x hx => .inr (hD x hx)), hG⟩, fun q hq => ⟨by have := (hY q hq).1; omega, (hY q hq).2⟩⟩
theorem Left.sub {B Y Y' Z : List Nat} {w w' : World} (h : Left B Y w w' Y') (hZ : ∀ q ∈ Z, q ∈ Y') : Left B Y w w' Z := ⟨h.1, fun q hq => h.2 q (hZ q hq)⟩
theorem leaves_marks {F : Fence} {n : Nat} {P : Program} {fn : Func} {tmps : Array Value} {R : Ending → World → Prop} : ∀ (Ds : List Nat) (V : World), Ds.Nodup → (∀ D ∈ Ds, V.heap[D]? = some (.deferred (some []))) →
    (∀ V', Touch Ds V V' → LeavesIn F n P fn tmps R [] .returning V') → LeavesInM F n P fn tmps R (Ds.map mark) .returning V
  | [], V, _, _, h => h V (Touch.refl _ _)
  | D :: Ds, V, hn, hd, h => by
    obtain ⟨n1, n2⟩ := List.nodup_cons.1 hn
    refine ⟨by simp, .inl ⟨D, _, rfl, run_takeDeferred (hd D (by simp)), leaves_marks Ds _ n2 (fun E hE => ?_) fun V' t => ?_⟩⟩
    · exact (World.putObj_heap_other (fun e => n1 (by rw [← e]; exact hE))).trans (hd E (by simp [hE]))
    · exact h V' (((Touch.refl _ _).put (.inl (by simp)) _).trans t (fun x hx => .inl (by simp [hx])))
/-- behind a loop whose caller knows new blocks alone -/
theorem Left.new {B Y Y' : List Nat} {W w w' : World} (hb : Below W.heap.size W w) (h : Left B Y w w' Y') (hY : ∀ q ∈ Y, W.heap.size ≤ q) : Below W.heap.size W w' := by
  obtain ⟨⟨G, t, hG⟩, _⟩ := h
  exact Touch.acc hb t (fun q hq => hY q (hG q hq).1)
/-- a variable in a block of its own -/
structure Var (V : World) (b : Nat) (v : Value) : Prop where
  val : V.cell? ⟨b, 0, none⟩ = some v
  free : V.frozen? ⟨b, 0, none⟩ = false
theorem Var.lt {V : World} {b : Nat} {v : Value} (h : Var V b v) : b < V.heap.size := World.block_lt_of_cell? V _ h.val
theorem Var.touch {V V1 : World} {b : Nat} {v : Value} {G : List Nat} (h : Var V b v) (t : Touch G V V1) (hn : b ∉ G) : Var V1 b v :=
  ⟨(t.cell h.lt hn).trans h.val, (t.frozen h.lt hn).trans h.free⟩
theorem Var.below {V V1 : World} {b : Nat} {v : Value} (h : Var V b v) (t : Below V.heap.size V V1) : Var V1 b v := h.touch (Touch.ofBelow (F := []) t) (by simp)
theorem Var.new (W : World) (v : Value) (t : TypeId) : Var (W.alloc (.cells #[v] t)) W.heap.size v := ⟨by go_simp, by go_simp⟩
theorem Var.old {W : World} {b : Nat} {v : Value} (h : Var W b v) (o : Obj) : Var (W.alloc o) b v := h.below ((Below.refl _ _).alloc (Nat.le_refl _) _)
theorem Var.set {V : World} {b : Nat} {v : Value} (h : Var V b v) (u : Value) : Var (V.setCell ⟨b, 0, none⟩ u) b u :=
  ⟨World.cell?_setCell_same _ _ _ h.val, by rw [World.frozen?_setCell]; exact h.free⟩
theorem Var.other {V : World} {b c : Nat} {v : Value} (h : Var V b v) (hn : b ≠ c) (o : Nat) (u : Value) : Var (V.setCell ⟨c, o, none⟩ u) b v :=
  h.touch (G := [c]) ((Touch.refl _ _).set (.inl (by simp)) u) (by simpa using hn)
/-- the function i, with what it has captured, goes through xs: the round is gone with each of them in turn, till it says no -/
def WayY {α : Type} (i : Nat) (lb : Array Value) (enc : α → Array Value) (xs : List α) (B : List Nat) (W : World) : Prop :=
  ∀ (l : Nat) (J : Nat → World → List Nat → Prop) (Q : World → List Nat → Prop) (Y0 : List Nat), (∀ q ∈ Y0, q < W.heap.size) → J 0 W Y0 → (∀ n, Abid (J n)) → Abid Q →
    (∀ n x w Y, xs[n]? = some x → J n w Y → (∀ q ∈ Y, q < w.heap.size) → YieldAt Fence.wide 0 Tryz.prog l (enc x) w fun e w' =>
      ∃ Y', Left B Y w w' Y' ∧ ((e = .returned (.bool true) ∧ J (n + 1) w' Y') ∨ (e = .returned (.bool false) ∧ Q w' Y'))) →
    Calls Tryz.prog i (#[.func (.yield l) #[] #[]] ++ lb) W fun e w' => e = .returned (.tuple #[]) ∧ ∃ Y, Left B Y0 W w' Y ∧ (J xs.length w' Y ∨ Q w' Y)
end Go.Proofs.YthgndgoljchnfaaGreat
namespace Go.Proofs.YthgndgoljchnfaaGreat
open Go.RowKit

/-- cells in a row are written, one after another -/
def setAll : List Value → Nat → List Value → List Value
  | xs, _, [] => xs
  | xs, o, v :: r => setAll (xs.set o v) (o + 1) r
theorem setAll_eq : ∀ (vs xs : List Value) (o : Nat), o + vs.length ≤ xs.length → setAll xs o vs = xs.take o ++ vs ++ xs.drop (o + vs.length)
  | [], xs, o, _ => by simp [setAll]
  | v :: r, xs, o, h => by
    simp only [List.length_cons] at h
    rw [setAll, setAll_eq r _ _ (by rw [List.length_set]; omega), List.drop_set, if_pos (by omega), List.take_set, List.take_succ_eq_append_getElem (show o < xs.length by omega), List.set_append_right _ _ (by rw [List.length_take]; omega), List.length_take, Nat.min_eq_left (by omega), Nat.sub_self, List.set_cons_zero]
    simp only [List.length_cons, List.append_assoc, List.cons_append, List.nil_append]
    rw [show o + 1 + r.length = o + (r.length + 1) by omega]
theorem own_setCells {base e size g n c : Nat} : ∀ (vs : List Value) (w : World) (o : Nat) (xs : List Value), w.ownsRow base e size (.slice (some ⟨g, 0, none⟩) n c) n xs → o + vs.length ≤ xs.length → (w.setCells g o vs).ownsRow base e size (.slice (some ⟨g, 0, none⟩) n c) n (setAll xs o vs)
  | [], _, _, _, h, _ => h
  | v :: r, _, o, _, h, hl => own_setCells r _ _ _ (h.stored o v).1 (by simp at hl ⊢; omega)
theorem rowC_put {α : Type} {enc : α → Array Value} {m : Nat} (h : ∀ x, (enc x).size = m) (l : List α) (k : Nat) (r : α) (hk : k < l.length) : setAll (rowC enc l) (k * m) (enc r).toList = rowC enc (l.set k r) := by
  have h21 : (enc r).toList.length = m := by rw [Array.length_toList, h]
  have hl := rowC_length h l
  have hkm : (k + 1) * m ≤ l.length * m := Nat.mul_le_mul_right _ hk
  rw [Nat.add_mul] at hkm
  rw [setAll_eq _ _ _ (by rw [h21, hl]; omega), h21, show k * m + m = (k + 1) * m by rw [Nat.add_mul]; omega, rowC_take h, rowC_drop h, List.set_eq_take_append_cons_drop, if_pos hk, ← rowC_one1 enc r, ← rowC_append, ← rowC_append]
  simp
theorem bx_lt {W : World} {q : Nat} {o : Obj} (h : W.heap[q]? = some o) : q < W.heap.size := (Array.getElem?_eq_some_iff.1 h).1
theorem bx_cell {w : World} {b o : Nat} {cs : Array Value} {T : TypeId} {v : Value} (hb : w.heap[b]? = some (.cells cs T)) (hv : cs[o]? = some v) : w.cell? ⟨b, o, none⟩ = some v := by rw [Lib.cell_of_heap hb, hv]
end Go.Proofs.YthgndgoljchnfaaGreat
namespace Go.Proofs.YthgndgoljchnfaaGreat
open Go.RowKit

set_option maxHeartbeats 400000 in
theorem apart_any (f t g u : Nat) (w : World) (hf : f < 18446744073709551616) (ht : t < 18446744073709551616) (hg : g < 18446744073709551616) (hu : u < 18446744073709551616) :
    Calls Tryz.prog 30 #[.agg #[.int .u64 f, .int .u64 t], .agg #[.int .u64 g, .int .u64 u]] w fun e w' => e = .returned (.bool (apartB f t g u)) ∧ Below w.heap.size w w' := by
  have C1 := Lib.hid fun W => in_any f t g W hf ht hg
  have C2 := Lib.hid fun W => in_any g u f W hg hu hf
  clear hf ht hg hu
  unfold apartB
  generalize inB f t g = p at *
  generalize inB g u f = q at *
  go_enter Tryz.func30, Tryz.ntmps30
  cases p
  all_goals
    go_wp2_with (first
      | (go_at_call 21; ((with_reducible refine (C1.out _).mono ?_); rintro e w1 ⟨rfl, hb1⟩; obtain ⟨hc1, hf1⟩ := bcell hb1))
      | (go_at_call 21; ((with_reducible refine (C2.out _).mono ?_); rintro e w2 ⟨rfl, hb2⟩)))
  · go_ret
    exact ⟨by simp, (below2 w _ _).trans ((hb1.mono (by simp; omega)).trans (hb2.mono (by have := hb1.size; simp at this; omega)))⟩
  · go_ret
    exact ⟨by simp, (below2 w _ _).trans (hb1.mono (by simp; omega))⟩

theorem below3 (w : World) (o1 o2 o3 : Obj) : Below w.heap.size w (((w.alloc o1).alloc o2).alloc o3) := (below2 w o1 o2).alloc (by simp; omega) o3
/-- may the arc be cut there? -/
def mayB (f t x : Nat) : Bool := !(x == f) && inB f t x
def arcOf (b : Bool) (f t : Nat) : Value := .agg #[.int .u64 ((if b then f else 0 : Nat)), .int .u64 ((if b then t else 0 : Nat))]
theorem arcOf_yes (f t : Nat) : arcOf true f t = .agg #[.int .u64 f, .int .u64 t] := rfl
theorem arcOf_no (f t : Nat) : arcOf false f t = .agg #[.int .u64 0, .int .u64 0] := rfl

set_option maxHeartbeats 400000 in
theorem arcSplit_any (f t x : Nat) (w : World) (hf : f < 18446744073709551616) (ht : t < 18446744073709551616) (hx : x < 18446744073709551616) :
    Calls Tryz.prog 85 #[.agg #[.int .u64 f, .int .u64 t], .int .u64 x] w fun e w' => e = .returned (.tuple #[arcOf (mayB f t x) f x, arcOf (mayB f t x) x t, .bool (mayB f t x)]) ∧ Below w.heap.size w w' := by
  have C1 := Lib.hid fun W => in_any f t x W hf ht hx
  clear hf ht hx
  unfold mayB
  generalize inB f t x = p at *
  have b1 := nat_beq x f
  generalize (x == f) = q at *
  cases q
  · cases p
    · go_enter Tryz.func85, Tryz.ntmps85
      go_wp2_with (go_at_call 21; ((with_reducible refine (C1.out _).mono ?_); rintro e w1 ⟨rfl, hb1⟩; obtain ⟨hc1, hf1⟩ := bcell hb1))
      exact bodyPost_ret (v := .tuple #[.agg #[.int .u64 0, .int .u64 0], .agg #[.int .u64 0, .int .u64 0], .bool false]) (by simp [results, Tryz.results85, go_sem, hc1]) rfl ⟨rfl, by have hb := (below3 w _ _ _).trans (hb1.mono (by simp; omega)); exact (((hb.setCell (by simp) _).setCell (by simp) _).setCell (by simp; omega) _).setCell (by simp; omega) _⟩
    · go_enter Tryz.func85, Tryz.ntmps85
      go_wp2_with (go_at_call 21; ((with_reducible refine (C1.out _).mono ?_); rintro e w1 ⟨rfl, hb1⟩; obtain ⟨hc1, hf1⟩ := bcell hb1))
      have hs0 := hb1.size
      simp at hs0
      go_region
      go_wp2
      refine bodyPost_ret (v := .tuple #[.agg #[.int .u64 f, .int .u64 x], .agg #[.int .u64 x, .int .u64 t], .bool true]) (by simp [results, Tryz.results85, go_sem, hc1]) rfl ⟨rfl, ?_⟩
      have hb := (below3 w _ _ _).trans (hb1.mono (by simp; omega))
      exact ((((hb.setCell (by simp) _).setCell (by simp) _).setCell (by simp; omega) _).setCell (by simp; omega) _).drew
  · go_enter Tryz.func85, Tryz.ntmps85
    go_wp2
    exact bodyPost_ret (v := .tuple #[.agg #[.int .u64 0, .int .u64 0], .agg #[.int .u64 0, .int .u64 0], .bool false]) (by simp [results, Tryz.results85, go_sem]) rfl ⟨rfl, below3 w _ _ _⟩

/-- may the two be put together? -/
def joinB (f t g u : Nat) : Bool := (t == g) && apartB f t g u

set_option maxHeartbeats 400000 in
theorem join_any (f t g u : Nat) (w : World) (hf : f < 18446744073709551616) (ht : t < 18446744073709551616) (hg : g < 18446744073709551616) (hu : u < 18446744073709551616) :
    Calls Tryz.prog 94 #[.agg #[.int .u64 f, .int .u64 t], .agg #[.int .u64 g, .int .u64 u]] w fun e w' => e = .returned (.tuple #[arcOf (joinB f t g u) f u, .bool (joinB f t g u)]) ∧ Below w.heap.size w w' := by
  have C1 := Lib.hid fun W => apart_any f t g u W hf ht hg hu
  clear hf ht hg hu
  unfold joinB
  generalize apartB f t g u = p at *
  have b1 := nat_beq t g
  have b2 : ((t : Int) != (g : Int)) = !(t == g) := by rw [← b1]; rfl
  generalize (t == g) = q at *
  cases q
  · go_enter Tryz.func94, Tryz.ntmps94
    go_wp2
    exact bodyPost_ret (v := .tuple #[.agg #[.int .u64 0, .int .u64 0], .bool false]) (by simp [results, Tryz.results94, go_sem]) rfl ⟨rfl, below3 w _ _ _⟩
  · cases p
    · go_enter Tryz.func94, Tryz.ntmps94
      go_wp2_with (go_at_call 30; ((with_reducible refine (C1.out _).mono ?_); rintro e w1 ⟨rfl, hb1⟩; obtain ⟨hc1, hf1⟩ := bcell hb1))
      exact bodyPost_ret (v := .tuple #[.agg #[.int .u64 0, .int .u64 0], .bool false]) (by simp [results, Tryz.results94, go_sem, hc1]) rfl ⟨rfl, by have hb := (below3 w _ _ _).trans (hb1.mono (by simp; omega)); exact (hb.setCell (by simp; omega) _).setCell (by simp; omega) _⟩
    · go_enter Tryz.func94, Tryz.ntmps94
      go_wp2_with (go_at_call 30; ((with_reducible refine (C1.out _).mono ?_); rintro e w1 ⟨rfl, hb1⟩; obtain ⟨hc1, hf1⟩ := bcell hb1))
      have hs0 := hb1.size
      simp at hs0
      refine bodyPost_ret (v := .tuple #[.agg #[.int .u64 f, .int .u64 u], .bool true]) (by simp [results, Tryz.results94, go_sem, hc1]) rfl ⟨rfl, ?_⟩
      have hb := (below3 w _ _ _).trans (hb1.mono (by simp; omega))
      exact (hb.setCell (by simp; omega) _).setCell (by simp; omega) _
end Go.Proofs.YthgndgoljchnfaaGreat
namespace Go.Proofs.YthgndgoljchnfaaGreat
open Go.RowKit

/-- where the elements that are appended come from: nowhere, or cells that hold them -/
def From (w : World) (size : Nat) (x : Value) (m : Nat) (news : List Value) : Prop :=
  (x = .slice none 0 0 ∧ m = 0 ∧ news = []) ∨ ∃ ad c, x = .slice (some ad) m c ∧ news.length = m * size ∧ ∀ j u, news[j]? = some u → w.cell? (ad.add j) = some u
theorem From.own {w : World} {base e size n : Nat} {v : Value} {xs : List Value} (h : w.ownsRow base e size v n xs) : From w size v n xs := by
  rcases h.2 with ⟨rfl, rfl⟩ | ⟨g, cap, cur, rfl, _⟩
  · exact .inl ⟨rfl, rfl, List.eq_nil_of_length_eq_zero (by simpa using h.1)⟩
  · exact .inr ⟨_, _, rfl, h.1, h.cells (g := g) rfl⟩
theorem run_append_any {P : Program} (w : World) (base : Nat) (t ty e : TypeId) (i : TypeInfo) (z : Value) (size bytes : Nat) (ht : P.underlying t = some (.slice e)) (hi : P.info? e = some i) (hz : i.zero = some z)
    (hsize : i.size = size) (hby : i.bytes = bytes) (hzs : z.cells.size = size) (hsz : 0 < size)
    (v : Value) (n : Nat) (xs : List Value) (hown : w.ownsRow base e size v n xs) (x : Value) (m : Nat) (news : List Value) (hx : From w size x m news) (h1 : ∀ u ∈ news, u.oneCell' = true)
    (h63 : n + m ≤ maxLen) (hbytes : (n + m) * bytes ≤ 140737488355328) (hbase : base ≤ w.heap.size) :
    ∃ v' w', (Builtin.append_ #[t, t] ty #[v, x]).run P w = .ok v' w' ∧ w'.ownsRow base e size v' (n + m) (xs ++ news) ∧ w.grownBy w' v.ownBlock ∧ SameOrNew w v v' := by
  rcases hx with ⟨rfl, rfl, rfl⟩ | ⟨ad, c, rfl, hl, hn⟩
  · refine ⟨v, w, run_append_owned_none (P := P) w base t ty e i size ht hi v n xs hown, by simpa using hown, grown_refl _ _, fun q hq => .inl hq⟩
  · obtain ⟨v', w', a, b, c, _, _, d⟩ := run_append_old (P := P) w base t ty e i z size bytes ht hi hz hsize hby hzs hsz v n xs hown ad m c news hl hn h1 h63 hbytes hbase
    exact ⟨v', w', a, b, c, d⟩
theorem wp_append_any {P : Program} {w : World} {o : Oper} {a : Act} {K : Act → World → Prop} {Q : Exit → Act → World → Prop} (s x : Operand) (t : TypeId)
    (ho : o.op = .call { callee := .builtin .append, args := #[s, x], argTypes := #[t, t] })
    (base : Nat) (e : TypeId) (i : TypeInfo) (z : Value) (size bytes : Nat) (ht : P.underlying t = some (.slice e)) (hi : P.info? e = some i) (hz : i.zero = some z)
    (hsize : i.size = size) (hby : i.bytes = bytes) (hzs : z.cells.size = size) (hsz : 0 < size)
    (v : Value) (n : Nat) (xs : List Value) (hs : a.eval s = v) (hown : w.ownsRow base e size v n xs)
    (y : Value) (m : Nat) (news : List Value) (hx : a.eval x = y) (hsrc : From w size y m news) (h1 : ∀ u ∈ news, u.oneCell' = true)
    (h63 : n + m ≤ maxLen) (hbytes : (n + m) * bytes ≤ 140737488355328) (hbase : base ≤ w.heap.size)
    (h : ∀ A c w', w'.ownsRow base e size (.slice A (n + m) c) (n + m) (xs ++ news) → w.grownBy w' v.ownBlock → SameOrNew w v (.slice A (n + m) c) → K (a.put o.dst (.slice A (n + m) c)) w') : o.wp P a w K Q := by
  obtain ⟨v', w', hr, h2, h3, h4⟩ := run_append_any (P := P) w base t o.type e i z size bytes ht hi hz hsize hby hzs hsz v n xs hown y m news hsrc h1 h63 hbytes hbase
  obtain ⟨A, c, rfl⟩ := own_slice h2
  unfold Oper.wp execOp
  simp only [ho, resolve, invoke, builtin, Sem.run_bind, Sem.run_pure, Result.andThen_ok, List.map_toArray, List.map_cons, List.map_nil, hs, hx, hr]
  exact h A c w' h2 h3 h4
/-- append as one step of a region that draws -/
theorem step_append_any {P : Program} {ops : Array Oper} {o : Oper} {a : Act} {w : World} {K : Act → World → Prop} {Q : Exit → Act → World → Prop} {E : Prop} (hg : o.guard = none) (s x : Operand) (t : TypeId)
    (ho : o.op = .call { callee := .builtin .append, args := #[s, x], argTypes := #[t, t] })
    (base : Nat) (e : TypeId) (i : TypeInfo) (z : Value) (size bytes : Nat) (ht : P.underlying t = some (.slice e)) (hi : P.info? e = some i) (hz : i.zero = some z)
    (hsize : i.size = size) (hby : i.bytes = bytes) (hzs : z.cells.size = size) (hsz : 0 < size)
    (v : Value) (n : Nat) (xs : List Value) (hs : a.eval s = v) (hown : w.ownsRow base e size v n xs)
    (y : Value) (m : Nat) (news : List Value) (hx : a.eval x = y) (hsrc : From w size y m news) (h1 : ∀ u ∈ news, u.oneCell' = true)
    (h63 : n + m ≤ maxLen) (hbytes : (n + m) * bytes ≤ 140737488355328) (hbase : base ≤ w.heap.size)
    (h : ∀ A c w', w'.ownsRow base e size (.slice A (n + m) c) (n + m) (xs ++ news) → w.grownBy w' v.ownBlock → SameOrNew w v (.slice A (n + m) c) → K (a.put o.dst (.slice A (n + m) c)) w') :
    if Region.wanted o (yielded ops a.tmps) = true then Oper.wp P o a w K Q else E := by
  rw [if_pos (by simp [Region.wanted, hg])]
  exact wp_append_any s x t ho base e i z size bytes ht hi hz hsize hby hzs hsz v n xs hs hown y m news hx hsrc h1 h63 hbytes hbase h
theorem wpList_append_any {P : Program} {w : World} {ops : Array Oper} {rest : List Oper} {o : Oper} {a : Act} {Q : Exit → Act → World → Prop} (hgd : o.guard = none) (s x : Operand) (t : TypeId)
    (ho : o.op = .call { callee := .builtin .append, args := #[s, x], argTypes := #[t, t] })
    (base : Nat) (e : TypeId) (i : TypeInfo) (z : Value) (size bytes : Nat) (ht : P.underlying t = some (.slice e)) (hi : P.info? e = some i) (hz : i.zero = some z)
    (hsize : i.size = size) (hby : i.bytes = bytes) (hzs : z.cells.size = size) (hsz : 0 < size)
    (v : Value) (n : Nat) (xs : List Value) (hs : a.eval s = v) (hown : w.ownsRow base e size v n xs)
    (y : Value) (m : Nat) (news : List Value) (hx : a.eval x = y) (hsrc : From w size y m news) (h1 : ∀ u ∈ news, u.oneCell' = true)
    (h63 : n + m ≤ maxLen) (hbytes : (n + m) * bytes ≤ 140737488355328) (hbase : base ≤ w.heap.size)
    (h : ∀ A c w', w'.ownsRow base e size (.slice A (n + m) c) (n + m) (xs ++ news) → w.grownBy w' v.ownBlock → SameOrNew w v (.slice A (n + m) c) → wpList P ops Q rest (a.put o.dst (.slice A (n + m) c)) w') : wpList P ops Q (o :: rest) a w :=
  wpList_plain hgd fun _ hK => wp_append_any s x t ho base e i z size bytes ht hi hz hsize hby hzs hsz v n xs hs hown y m news hx hsrc h1 h63 hbytes hbase fun A c w' h2 h3 h4 => hK _ _ (h A c w' h2 h3 h4)
end Go.Proofs.YthgndgoljchnfaaGreat
