import Derived.Test.YtnjodhglbapnlaaGreatGg01
import Derived.Test.YtnjodhglbapnlaaGreatGg02
import Derived.Test.YtnjodhglbapnlaaGreatGg07
import Derived.Test.YtnjodhglbapnlaaGreatGg06
import Derived.Test.YtnjodhglbapnlaaGreatGg03
import Derived.RangeFuncNested
import Derived.RangeFuncBound
import Derived.Shelf.Abstract
import Derived.Shelf.RegionOpen
import Derived.WalkKit
import Derived.OwnWalkIn
import Derived.TacticsInMore
import Derived.LoopNIn
import Derived.LoopIn
import Derived.Deep.MidRow
import Derived.Deep.LoopGhost
import Derived.Deep.DeepCutAuto
set_option maxRecDepth 100000
set_option maxHeartbeats 16000000
namespace Go.Proofs.YtnjodhglbapnlaaGreat
open Go.RowKit
theorem Touch.put {F : List Nat} {a b : World} (h : Touch F a b) {l : Nat} (hl : l ∈ F ∨ a.heap.size ≤ l) (o : Obj) : Touch F a (b.putObj l o) :=
 h.grown (grownBy_putObj' b l o) (fun k e => by cases e; exact hl)
def YV (yv : Value) (args : Array Value) (w : World) (R : Ending → World → Prop) : Prop :=
 (∃ y yf yc, yv = .func (.func y) yf yc ∧ (∀ a w, (callFunc y a).run Tryz.prog w = .ok (.enter y a) w) ∧ Calls Tryz.prog y (yf ++ args ++ yc) w R) ∨
 (∃ l, yv = .func (.yield l) #[] #[] ∧ YieldAt Fence.wide 0 Tryz.prog l args w R)
theorem RoundIn.deep {P : Program} {n m l f : Nat} {tmps : Array Value} {assign body : Code} {w : World} {R : Ending → World → Prop} (h : RoundIn Fence.wide n P l f tmps assign body w R) : RoundIn Fence.wide m P l f tmps assign body w R :=
 ⟨h.1, fun c cs _ => h.2 c cs (room_wide _)⟩
def Left (B Y : List Nat) (w w' : World) (Y' : List Nat) : Prop := (∃ G, Touch G w w' ∧ ∀ q ∈ G, q ∈ Y ∧ q ∉ B) ∧ ∀ q ∈ Y', q < w'.heap.size ∧ (q ∈ Y ∨ w.heap.size ≤ q)
def Abid (J : World → List Nat → Prop) : Prop := ∀ w w1 Y G, J w Y → Touch G w w1 → (∀ q ∈ Y, q ∉ G) → J w1 Y
theorem Left.size {B Y Y' : List Nat} {w w' : World} (h : Left B Y w w' Y') : w.heap.size ≤ w'.heap.size := by
 obtain ⟨⟨G, h, _⟩, _⟩ := h
 exact h.size
theorem Left.refl {B Y : List Nat} {w : World} (h : ∀ q ∈ Y, q < w.heap.size) : Left B Y w w Y := ⟨⟨[], Touch.refl _ _, by simp⟩, fun q hq => ⟨h q hq, .inl hq⟩⟩
theorem Left.trans {B Y Y' Y'' : List Nat} {a b c : World} (h : Left B Y a b Y') (k : Left B Y' b c Y'') : Left B Y a c Y'' := by
 have hs := h.size
 obtain ⟨⟨G, h1, h2⟩, h3⟩ := h
 obtain ⟨⟨G', k1, k2⟩, k3⟩ := k
 refine ⟨⟨G ++ G'.filter (fun q => decide (q < a.heap.size)), h1.mono (fun x hx => List.mem_append_left _ hx) |>.trans k1 ?_, ?_⟩, ?_⟩
 ·intro x hx
  by_cases z : x < a.heap.size
  ·exact .inl (List.mem_append_right _ (List.mem_filter.2 ⟨hx, by simpa using z⟩))
  ·exact .inr (by omega)
 ·intro q hq
  rcases List.mem_append.1 hq with z | z
  ·exact h2 q z
  ·obtain ⟨z1, z2⟩ := List.mem_filter.1 z
   have z2 := of_decide_eq_true z2
   obtain ⟨y1, y2⟩ := k2 q z1
   rcases (h3 q y1).2 with x | x
   ·exact ⟨x, y2⟩
   ·omega
 ·intro q hq
  obtain ⟨z1, z2⟩ := k3 q hq
  refine ⟨z1, ?_⟩
  rcases z2 with z | z
  ·exact (h3 q z).2
  ·exact .inr (by omega)
theorem Left.after {B Y Y' : List Nat} {a b c : World} (h : Below a.heap.size a b) (k : Left B Y b c Y') : Left B Y a c Y' := by
 obtain ⟨⟨G, k1, k2⟩, k3⟩ := k
 refine ⟨⟨G, (Touch.ofBelow (F := G) h).trans k1 (fun x hx => .inl hx), k2⟩, fun q hq => ?_⟩
 obtain ⟨z1, z2⟩ := k3 q hq
 have := h.size
 exact ⟨z1, z2.imp id (fun z => by omega)⟩
def yib (i : Nat) (lb : Array Value) (xs : List Item) (B : List Nat) (W : World) : Prop :=
 ∀ (fn : Fn) (yf yc : Array Value) (J : Nat → World → List Nat → Prop) (Q : World → List Nat → Prop) (Y0 : List Nat), (∀ q ∈ Y0, q < W.heap.size) → J 0 W Y0 → (∀ n, Abid (J n)) → Abid Q →
  (∀ n x w Y, xs[n]? = some x → J n w Y → (∀ q ∈ Y, q < w.heap.size) → YV (.func fn yf yc) #[.string x.1, .string x.2] w fun e w' =>
   ∃ Y', Left B Y w w' Y' ∧ ((e = .returned (.bool true) ∧ J (n + 1) w' Y') ∨ (e = .returned (.bool false) ∧ Q w' Y'))) →
  Calls Tryz.prog i (#[.func fn yf yc] ++ lb) W fun e w' => e = .returned (.tuple #[]) ∧ ∃ Y, Left B Y0 W w' Y ∧ (J xs.length w' Y ∨ Q w' Y)
def yic (B Y : List Nat) (W : World) (I : World → List Nat → Prop) (Ix : Code → World → List Nat → Prop) : Exit → Act → World → Prop
 | .normal, _, W' => ∃ Y', Left B Y W W' Y' ∧ I W' Y'
 | .ret, _, W' => ∃ Y', Left B Y W W' Y' ∧ Ix .ret W' Y'
 | .exit id, _, W' => ∃ Y', Left B Y W W' Y' ∧ Ix (.exit id) W' Y'
 | .goto t, _, W' => ∃ Y', Left B Y W W' Y' ∧ Ix (.goto t) W' Y'
 | .panic _, _, _ => False
 | .outgrown, _, _ => False
theorem ygm {g : Operand} {ps : Array Tmp} {assign body : Code} {Q : Exit → Act → World → Prop} {a : Act} {w : World} {gf : Nat} {lb : Array Value}
  (hg : a.eval g = .func (.func gf) #[] lb) (eg : ∀ args w, (callFunc gf args).run Tryz.prog w = .ok (.enter gf args) w) {xs : List Item} {B : List Nat}
  (hw : ∀ W, Below w.heap.size w W → yib gf lb xs B W) (hB : ∀ q ∈ B, q < w.heap.size) (hps : ps.size = 2)
  (I : Nat → World → List Nat → Prop) (Ix : Code → World → List Nat → Prop) (Y0 : List Nat) (hY0 : ∀ q ∈ Y0, q < w.heap.size) (h0 : I 0 w Y0) (hI : ∀ n, Abid (I n)) (hIx : ∀ c, Abid (Ix c)) (a₁ : Item → Act)
  (hassign : ∀ (l : Nat) (x : Item) (W : World) (K : Act → World → Prop), K (a₁ x) W →
   assign.wpIn (Fence.wide.inRound l) 0 Tryz.prog (Exit.then K (fun _ _ _ => False)) { tmps := (ps.zip #[.string x.1, .string x.2]).foldl (fun t (p, v) => t.setIfInBounds p v) a.tmps, defers := [] } W)
  (hbody : ∀ (l n : Nat) (x : Item) (W : World) (Y : List Nat), w.heap.size ≤ W.heap.size → xs[n]? = some x → I n W Y → (∀ q ∈ Y, q < W.heap.size) → body.wpIn (Fence.wide.inRound l) 0 Tryz.prog (yic B Y W (I (n + 1)) Ix) (a₁ x) W)
  (hdone : ∀ (D : Nat) (W : World) (Y : List Nat), w.heap.size ≤ D → D ∉ Y → Left B Y0 w W Y → I xs.length W Y → W.heap[D]? = some (.deferred (some [])) → Q .normal { a with defers := { target := .collected D, args := #[] } :: a.defers } W)
  (hstop : ∀ (D : Nat) (c : Code) (W : World) (Y : List Nat), w.heap.size ≤ D → D ∉ Y → Left B Y0 w W Y → Ix c W Y → W.heap[D]? = some (.deferred (some [])) → c.wpIn Fence.wide 0 Tryz.prog Q { a with defers := { target := .collected D, args := #[] } :: a.defers } W) :
  (Code.rangeFunc g ps assign body).wpIn Fence.wide 0 Tryz.prog Q a w := by
 refine wpIn_rangeFunc fun fn hfn => ?_
 obtain ⟨rec, hrec⟩ : ∃ rec : LoopState → Option Code → Loop, rec = fun st pe => { state := st, pending := pe, fn, tmps := a.tmps, params := ps, assign, body, defers := w.heap.size } := ⟨_, rfl⟩
 obtain ⟨D, hD⟩ : ∃ D, D = w.heap.size := ⟨_, rfl⟩
 obtain ⟨W1, hW1⟩ : ∃ W1, (w.alloc (.deferred (some []))).alloc (.loop (rec .ready none)) = W1 := ⟨_, rfl⟩
 have b1 : Below w.heap.size w W1 := by
  rw [← hW1]; exact ((Below.refl _ w).alloc (Nat.le_refl _) _).alloc (by simp) _
 have s1 : W1.heap.size = D + 2 := by rw [← hW1, hD]; simp
 have l1 : W1.heap[D + 1]? = some (.loop (rec .ready none)) := by
  rw [← hW1, hD]
  have := World.alloc_heap_new (w.alloc (.deferred (some []))) (.loop (rec .ready none))
  rwa [World.size_alloc] at this
 have k1 : W1.heap[D]? = some (.deferred (some [])) := by
  rw [← hW1, hD]
  exact (Below.heap_alloc _ _ _ (by simp)).trans (World.alloc_heap_new w _)
 have i1 : I 0 W1 Y0 := hI 0 w W1 Y0 [] h0 (Touch.ofBelow b1) (by simp)
 have hBD : ∀ q ∈ B, q < D := fun q hq => hD ▸ hB q hq
 have hYD : ∀ q ∈ Y0, q < D := fun q hq => hD ▸ hY0 q hq
 obtain ⟨T, hT⟩ : ∃ T : LoopState → Option Code → World → Prop, T = fun st pe W => W.heap[D + 1]? = some (.loop (rec st pe)) ∧ W.heap[D]? = some (.deferred (some [])) := ⟨_, rfl⟩
 have hTa : ∀ {st pe W W' G}, T st pe W → Touch G W W' → D ∉ G → D + 1 ∉ G → T st pe W' := by
  intro st pe W W' G h t n1 n2
  rw [hT] at h ⊢
  exact ⟨(t.block _ (Array.getElem?_eq_some_iff.1 h.1).1 n2).trans h.1, (t.block _ (Array.getElem?_eq_some_iff.1 h.2).1 n1).trans h.2⟩
 have hWay := hw W1 b1 (.yield (D + 1)) #[] #[]
  (fun n W Y => ∃ Y1, Y = D :: (D + 1) :: Y1 ∧ D ∉ Y1 ∧ D + 1 ∉ Y1 ∧ I n W Y1 ∧ T .ready none W)
  (fun W Y => ∃ Y1 c, Y = D :: (D + 1) :: Y1 ∧ D ∉ Y1 ∧ D + 1 ∉ Y1 ∧ Ix c W Y1 ∧ T .done (some c) W)
  (D :: (D + 1) :: Y0) (by
   intro q hq
   rw [s1]
   simp at hq
   rcases hq with h | h | h
   ·omega
   ·omega
   ·have := hYD q h; omega)
  ⟨Y0, rfl, fun h => by have := hYD _ h; omega, fun h => by have := hYD _ h; omega, i1, by rw [hT]; exact ⟨l1, k1⟩⟩
  (fun n W W' Y G ⟨Y1, e, n1, n2, h1, h2⟩ t hn => by
   subst e
   exact ⟨Y1, rfl, n1, n2, hI n W W' Y1 G h1 t (fun q hq => hn q (by simp [hq])), hTa h2 t (hn D (by simp)) (hn (D + 1) (by simp))⟩)
  (fun W W' Y G ⟨Y1, c, e, n1, n2, h1, h2⟩ t hn => by
   subst e
   exact ⟨Y1, c, rfl, n1, n2, hIx c W W' Y1 G h1 t (fun q hq => hn q (by simp [hq])), hTa h2 t (hn D (by simp)) (hn (D + 1) (by simp))⟩)
  (by
   rintro n x W Y hx ⟨Y1, rfl, n1, n2, hi, ht⟩ hY
   have ht0 := ht
   rw [hT] at ht
   obtain ⟨hl, hk⟩ := ht
   have hlt : D + 1 < W.heap.size := (Array.getElem?_eq_some_iff.1 hl).1
   have hy := run_yield (P := Tryz.prog) (args := #[.string x.1, .string x.2]) hl (by rw [hrec]; exact hps.symm)
   rw [hrec] at hy
   refine .inr ⟨D + 1, rfl, fn, _, assign, body, hy, roundIn_of_wpIn hfn (hassign _ x W _ ⟨_, run_beginRound hl (by rw [hrec]), ?_⟩)⟩
   obtain ⟨V, hV⟩ : ∃ V, V = W.putObj (D + 1) (.loop { rec .ready none with state := .busy }) := ⟨_, rfl⟩
   have t2 : Touch [D + 1] W V := by rw [hV]; exact (Touch.refl _ _).put (.inl (by simp)) _
   have sV : V.heap.size = W.heap.size := by rw [hV]; simp
   have l2 : V.heap[D + 1]? = some (.loop { rec .ready none with state := .busy }) := by rw [hV]; exact World.putObj_heap_same hlt
   have k2 : V.heap[D]? = some (.deferred (some [])) := by rw [hV]; exact (World.putObj_heap_other (by omega)).trans hk
   have i2 : I n V Y1 := hI n W V Y1 _ hi t2 (fun q hq e => by simp at e; exact n2 (e ▸ hq))
   rw [← hV]
   have y2 : ∀ q ∈ Y1, q < V.heap.size := fun q hq => by rw [sV]; exact hY q (by simp [hq])
   refine wpIn_mono (hbody _ n x V Y1 (by rw [sV]; omega) hx i2 y2) ?_
   have fin : ∀ (jump : Option Code) (W3 : World) (Y3 : List Nat), Left B Y1 V W3 Y3 →
     (Instr.endRound (D + 1) jump).run Tryz.prog W3 = .ok (.bool jump.isNone) (W3.putObj (D + 1) (.loop (rec (if jump.isNone then .ready else .done) jump))) ∧
     Touch [D + 1] W3 (W3.putObj (D + 1) (.loop (rec (if jump.isNone then .ready else .done) jump))) ∧ D ∉ Y3 ∧ D + 1 ∉ Y3 ∧
     T (if jump.isNone then .ready else .done) jump (W3.putObj (D + 1) (.loop (rec (if jump.isNone then .ready else .done) jump))) ∧
     Left B (D :: (D + 1) :: Y1) W (W3.putObj (D + 1) (.loop (rec (if jump.isNone then .ready else .done) jump))) (D :: (D + 1) :: Y3) := by
    intro jump W3 Y3 h3
    have hs3 := h3.size
    obtain ⟨⟨G, t3, g3⟩, y3⟩ := h3
    have d1 : D ∉ G := fun h => n1 (g3 _ h).1
    have d2 : D + 1 ∉ G := fun h => n2 (g3 _ h).1
    have l3 : W3.heap[D + 1]? = some (.loop { rec .ready none with state := .busy }) := (t3.block _ (by omega) d2).trans l2
    have k3 : W3.heap[D]? = some (.deferred (some [])) := (t3.block _ (by omega) d1).trans k2
    have e1 : D ∉ Y3 := fun h => by
     rcases (y3 _ h).2 with z | z
     ·exact n1 z
     ·omega
    have e2 : D + 1 ∉ Y3 := fun h => by
     rcases (y3 _ h).2 with z | z
     ·exact n2 z
     ·omega
    have hr := run_endRound (P := Tryz.prog) jump l3
    rw [hrec] at hr ⊢
    refine ⟨hr, (Touch.refl _ _).put (.inl (by simp)) _, e1, e2, by rw [hT, hrec]; exact ⟨World.putObj_heap_same (by omega), (World.putObj_heap_other (by omega)).trans k3⟩, ⟨(D + 1) :: G, ?_, ?_⟩, ?_⟩
    ·exact ((t2.mono (G := (D + 1) :: G) (fun x hx => by simp at hx; simp [hx])).trans t3 (fun x hx => .inl (by simp [hx]))).put (.inl (by simp)) _
    ·intro q hq
     rcases List.mem_cons.1 hq with rfl | z
     ·exact ⟨by simp, fun hb => by have := hBD _ hb; omega⟩
     ·exact ⟨by simp [(g3 q z).1], (g3 q z).2⟩
    ·intro q hq
     simp only [World.putObj_size]
     simp at hq
     rcases hq with rfl | rfl | z
     ·exact ⟨by omega, .inl (by simp)⟩
     ·exact ⟨by omega, .inl (by simp)⟩
     ·obtain ⟨z1, z2⟩ := y3 q z
      exact ⟨z1, z2.imp (fun z => by simp [z]) (fun z => by omega)⟩
   rintro e a3 W3 hp
   cases e with
   | normal =>
    obtain ⟨Y3, h3, i3⟩ := hp
    obtain ⟨f1, f2, f3, f4, f5, f6⟩ := fin none W3 Y3 h3
    exact ⟨_, _, f1, _, f6, .inl ⟨rfl, Y3, rfl, f3, f4, hI _ _ _ _ _ i3 f2 (fun q hq e => by simp at e; exact f4 (e ▸ hq)), f5⟩⟩
   | ret =>
    obtain ⟨Y3, h3, i3⟩ := hp
    obtain ⟨f1, f2, f3, f4, f5, f6⟩ := fin (some .ret) W3 Y3 h3
    exact ⟨_, _, f1, _, f6, .inr ⟨rfl, Y3, _, rfl, f3, f4, hIx _ _ _ _ _ i3 f2 (fun q hq e => by simp at e; exact f4 (e ▸ hq)), f5⟩⟩
   | exit id =>
    obtain ⟨Y3, h3, i3⟩ := hp
    obtain ⟨f1, f2, f3, f4, f5, f6⟩ := fin (some (.exit id)) W3 Y3 h3
    exact ⟨_, _, f1, _, f6, .inr ⟨rfl, Y3, _, rfl, f3, f4, hIx _ _ _ _ _ i3 f2 (fun q hq e => by simp at e; exact f4 (e ▸ hq)), f5⟩⟩
   | goto t =>
    obtain ⟨Y3, h3, i3⟩ := hp
    obtain ⟨f1, f2, f3, f4, f5, f6⟩ := fin (some (.goto t)) W3 Y3 h3
    exact ⟨_, _, f1, _, f6, .inr ⟨rfl, Y3, _, rfl, f3, f4, hIx _ _ _ _ _ i3 f2 (fun q hq e => by simp at e; exact f4 (e ▸ hq)), f5⟩⟩
   | panic ch => exact hp.elim
   | outgrown => exact hp.elim)
 refine ⟨D + 1, [{ target := .collected D, args := #[] }], W1, { target := .fn (.func gf) lb, args := #[.func (.yield (D + 1)) #[] #[]] }, W1, gf, #[.func (.yield (D + 1)) #[] #[]] ++ lb, W1, ?_, ?_, fun _ _ => trivial, ?_, (fun h => by simp [Fence.wide] at h), ?_⟩
 ·rw [← hW1, hrec, hD]
  exact run_enterLoop_outer _ _ _ _ _
 ·simp only [resolve, hg]
  simp [go_sem]
 ·simp [invoke, go_sem, eg]
 ·refine (callsIn_wide.2 hWay).mono ?_
  have back : ∀ {W2 Y1 o}, Left B (D :: (D + 1) :: Y0) W1 W2 (D :: (D + 1) :: Y1) → D ∉ Y1 → D + 1 ∉ Y1 → Touch [D + 1] W2 (W2.putObj (D + 1) o) ∧ Left B Y0 w (W2.putObj (D + 1) o) Y1 := by
   intro W2 Y1 o h n1 n2
   have hs := h.size
   obtain ⟨⟨G, t, hG⟩, hY⟩ := h
   refine ⟨(Touch.refl _ _).put (.inl (by simp)) _, ⟨G.filter (fun q => decide (q < D)), ?_, ?_⟩, ?_⟩
   ·have z : Touch (G.filter (fun q => decide (q < D))) w W2 := (Touch.ofBelow b1).trans t (fun x hx => by
     by_cases z : x < D
     ·exact .inl (List.mem_filter.2 ⟨hx, by simpa using z⟩)
     ·exact .inr (by omega))
    exact z.put (.inr (by omega)) _
   ·intro q hq
    obtain ⟨z1, z2⟩ := List.mem_filter.1 hq
    have z2 := of_decide_eq_true z2
    obtain ⟨y1, y2⟩ := hG q z1
    simp at y1
    rcases y1 with y | y | y
    ·omega
    ·omega
    ·exact ⟨y, y2⟩
   ·intro q hq
    obtain ⟨z1, z2⟩ := hY q (by simp [hq])
    refine ⟨by simpa using z1, ?_⟩
    rcases z2 with z | z
    ·simp at z
     rcases z with rfl | rfl | z
     ·exact absurd hq n1
     ·exact absurd hq n2
     ·exact .inl z
    ·exact .inr (by omega)
  rintro e W2 ⟨rfl, Y, hL, (⟨Y1, rfl, n1, n2, hi, ht⟩ | ⟨Y1, c, rfl, n1, n2, hi, ht⟩)⟩
  ·rw [hT] at ht
   obtain ⟨b2, b3⟩ := back (o := .loop { rec .ready none with state := .exhausted }) hL n1 n2
   have h9 := run_endLoop (P := Tryz.prog) ht.1 (by rw [hrec]; simp)
   refine ⟨none, _, by rw [hrec] at h9; exact h9, ?_⟩
   rw [hrec] at b2 b3
   exact hdone D _ Y1 (by omega) n1 b3 (hI _ _ _ _ _ hi b2 (fun q hq e => by simp at e; exact n2 (e ▸ hq))) ((World.putObj_heap_other (by omega)).trans ht.2)
  ·rw [hT] at ht
   obtain ⟨b2, b3⟩ := back (o := .loop { rec .done (some c) with state := .exhausted }) hL n1 n2
   have h9 := run_endLoop (P := Tryz.prog) ht.1 (by rw [hrec]; simp)
   refine ⟨some c, _, by rw [hrec] at h9; exact h9, ?_⟩
   rw [hrec] at b2 b3
   exact hstop D c _ Y1 (by omega) n1 b3 (hIx _ _ _ _ _ hi b2 (fun q hq e => by simp at e; exact n2 (e ▸ hq))) ((World.putObj_heap_other (by omega)).trans ht.2)
theorem ysz {P : Program} (w : World) (d : Nat) (t : TypeId) (fn : Fn) (fi ca : Array Value) {a b : Array TypeId} {c : Bool} (h : P.underlying t = some (.func a b c)) : (Op.equalIn (d + 1) t (.func fn fi ca) .nilFunc).run P w = .ok false w := by
 simp [Op.equalIn, run_underlying h]
theorem ys0 {P : Program} (w : World) (t : TypeId) (fn : Fn) (fi ca : Array Value) {a b : Array TypeId} {c : Bool} (h : P.underlying t = some (.func a b c)) : (Op.equal t (.func fn fi ca) .nilFunc).run P w = .ok false w := ysz w 9999 t fn fi ca h
theorem ymt {P : Program} (w : World) (t : TypeId) (fn : Fn) (fi ca : Array Value) {a b : Array TypeId} {c : Bool} (h : P.underlying t = some (.func a b c)) :
  (binOp .neq t (.func fn fi ca) .nilFunc).run P w = .ok (.bool true) w := by
 simp only [binOp]
 simp [ys0 w t fn fi ca h]
theorem Left.away {B Y Y' : List Nat} {w w' : World} (h : Left B Y w w' Y') {q : Nat} (hq : q < w.heap.size) (hn : q ∉ Y) : q < w'.heap.size ∧ q ∉ Y' ∧ w'.heap[q]? = w.heap[q]? := by
 have hs := h.size
 obtain ⟨⟨G, t, hG⟩, hY⟩ := h
 refine ⟨by omega, fun z => ?_, t.block q hq (fun z => hn (hG q z).1)⟩
 rcases (hY q z).2 with z | z
 ·exact hn z
 ·omega
theorem Left.row {B Y Y' : List Nat} {w w' : World} (h : Left B Y w w' Y') {base e size n : Nat} {v : Value} {xs : List Value} (hr : w.ownsRow base e size v n xs) (hn : ∀ q, v.ownBlock = some q → q ∉ Y) :
  w'.ownsRow base e size v n xs ∧ ∀ q, v.ownBlock = some q → q ∉ Y' := by
 have h0 := h
 obtain ⟨⟨G, t, hG⟩, hY⟩ := h
 exact ⟨t.row hr (fun q hq z => hn q hq (hG q z).1), fun q hq => (h0.away (hr.lt q hq).2 (hn q hq)).2.1⟩
theorem Left.cell {B Y Y' : List Nat} {w w' : World} (h : Left B Y w w' Y') {p : Addr} {v : Value} (hc : w.cell? p = some v) (hn : p.block ∉ Y) : w'.cell? p = some v ∧ p.block ∉ Y' := by
 have := h.away (World.block_lt_of_cell? w p hc) hn
 exact ⟨(World.cell?_of_block this.2.2).trans hc, this.2.1⟩
theorem Left.cellB {B Y Y' : List Nat} {w w' : World} (h : Left B Y w w' Y') {p : Addr} {v : Value} (hc : w.cell? p = some v) (hn : p.block ∈ B) : w'.cell? p = some v := by
 obtain ⟨⟨G, t, hG⟩, hY⟩ := h
 exact (t.cell (World.block_lt_of_cell? w p hc) (fun z => (hG _ z).2 hn)).trans hc
theorem Left.more {B Y Y' Z : List Nat} {w w' : World} (h : Left B Y w w' Y') (hZ : ∀ q ∈ Z, q < w.heap.size) : Left B (Z ++ Y) w w' (Z ++ Y') := by
 have hs := h.size
 obtain ⟨⟨G, t, hG⟩, hY⟩ := h
 refine ⟨⟨G, t, fun q hq => ⟨List.mem_append_right _ (hG q hq).1, (hG q hq).2⟩⟩, fun q hq => ?_⟩
 rcases List.mem_append.1 hq with z | z
 ·exact ⟨by have := hZ q z; omega, .inl (List.mem_append_left _ z)⟩
 ·exact ⟨(hY q z).1, (hY q z).2.imp (fun z => List.mem_append_right _ z) id⟩
theorem Left.less {B Y Y' Z : List Nat} {W w w' : World} (hb : Below W.heap.size W w) (h : Left B (Z ++ Y) w w' (Z ++ Y')) (hZ : ∀ q ∈ Z, q ∈ B ∨ W.heap.size ≤ q) (hd : ∀ q ∈ Y', q ∈ Y ∨ W.heap.size ≤ q) : Left B Y W w' Y' := by
 have hs := hb.size
 obtain ⟨⟨G, t, hG⟩, hY⟩ := h
 refine ⟨⟨G.filter (fun q => decide (q < W.heap.size)), (Touch.ofBelow hb).trans t (fun x hx => ?_), fun q hq => ?_⟩, fun q hq => ⟨(hY q (List.mem_append_right _ hq)).1, hd q hq⟩⟩
 ·by_cases z : x < W.heap.size
  ·exact .inl (List.mem_filter.2 ⟨hx, by simpa using z⟩)
  ·exact .inr (by omega)
 ·obtain ⟨z1, z2⟩ := List.mem_filter.1 hq
  have z2 := of_decide_eq_true z2
  obtain ⟨y1, y2⟩ := hG q z1
  rcases List.mem_append.1 y1 with z | z
  ·rcases hZ q z with x | x
   ·exact absurd x y2
   ·omega
  ·exact ⟨z, y2⟩
theorem Left.put {B Y Y' : List Nat} {W w : World} (h : Left B Y W w Y') {l : Nat} (o : Obj) (hl : W.heap.size ≤ l) : Left B Y W (w.putObj l o) Y' := by
 obtain ⟨⟨G, t, hG⟩, hY⟩ := h
 exact ⟨⟨G, t.put (.inr hl) o, hG⟩, fun q hq => by simpa using hY q hq⟩
abbrev mark (D : Nat) : Deferred := { target := .collected D, args := #[] }
theorem Left.guard {B C Y Y' : List Nat} {w w' : World} (h : Left B Y w w' Y') (hC : ∀ q ∈ C, q ∉ Y) : Left (C ++ B) Y w w' Y' := by
 obtain ⟨⟨G, t, hG⟩, hY⟩ := h
 exact ⟨⟨G, t, fun q hq => ⟨(hG q hq).1, fun z => (List.mem_append.1 z).elim (fun z => hC q z (hG q hq).1) (hG q hq).2⟩⟩, hY⟩
theorem Left.unguard {B C Y Y' : List Nat} {w w' : World} (h : Left (C ++ B) Y w w' Y') : Left B Y w w' Y' := by
 obtain ⟨⟨G, t, hG⟩, hY⟩ := h
 exact ⟨⟨G, t, fun q hq => ⟨(hG q hq).1, fun z => (hG q hq).2 (List.mem_append_right _ z)⟩⟩, hY⟩
theorem Left.turn {B Y Y' Ds : List Nat} {W w w' : World} (h : Left B Y W w Y') (t : Touch Ds w w') (hD : ∀ q ∈ Ds, W.heap.size ≤ q) : Left B Y W w' Y' := by
 have hs := t.size
 obtain ⟨⟨G, t0, hG⟩, hY⟩ := h
 exact ⟨⟨G, t0.trans t (fun x hx => .inr (hD x hx)), hG⟩, fun q hq => ⟨by have := (hY q hq).1; omega, (hY q hq).2⟩⟩
theorem Left.sub {B Y Y' Z : List Nat} {w w' : World} (h : Left B Y w w' Y') (hZ : ∀ q ∈ Z, q ∈ Y') : Left B Y w w' Z := ⟨h.1, fun q hq => h.2 q (hZ q hq)⟩
theorem ygn {F : Fence} {n : Nat} {P : Program} {fn : Func} {tmps : Array Value} {R : Ending → World → Prop} : ∀ (Ds : List Nat) (V : World), Ds.Nodup → (∀ D ∈ Ds, V.heap[D]? = some (.deferred (some []))) →
  (∀ V', Touch Ds V V' → LeavesIn F n P fn tmps R [] .returning V') → LeavesInM F n P fn tmps R (Ds.map mark) .returning V
 | [], V, _, _, h => h V (Touch.refl _ _)
 | D :: Ds, V, hn, hd, h => by
  obtain ⟨n1, n2⟩ := List.nodup_cons.1 hn
  refine ⟨by simp, .inl ⟨D, _, rfl, run_takeDeferred (hd D (by simp)), ygn Ds _ n2 (fun E hE => ?_) fun V' t => ?_⟩⟩
  ·exact (World.putObj_heap_other (fun e => n1 (by rw [← e]; exact hE))).trans (hd E (by simp [hE]))
  ·exact h V' (((Touch.refl _ _).put (.inl (by simp)) _).trans t (fun x hx => .inl (by simp [hx])))
theorem Left.new {B Y Y' : List Nat} {W w w' : World} (hb : Below W.heap.size W w) (h : Left B Y w w' Y') (hY : ∀ q ∈ Y, W.heap.size ≤ q) : Below W.heap.size W w' := by
 obtain ⟨⟨G, t, hG⟩, _⟩ := h
 exact Touch.acc hb t (fun q hq => hY q (hG q hq).1)
structure Var (V : World) (b : Nat) (v : Value) : Prop where
 val : V.cell? ⟨b, 0, none⟩ = some v
 free : V.frozen? ⟨b, 0, none⟩ = false
theorem Var.lt {V : World} {b : Nat} {v : Value} (h : Var V b v) : b < V.heap.size := World.block_lt_of_cell? V _ h.val
theorem Var.touch {V V1 : World} {b : Nat} {v : Value} {G : List Nat} (h : Var V b v) (t : Touch G V V1) (hn : b ∉ G) : Var V1 b v :=
 ⟨(t.cell h.lt hn).trans h.val, (t.frozen h.lt hn).trans h.free⟩
theorem Var.below {V V1 : World} {b : Nat} {v : Value} (h : Var V b v) (t : Below V.heap.size V V1) : Var V1 b v := h.touch (Touch.ofBelow (F := []) t) (by simp)
theorem Var.new (W : World) (v : Value) (t : TypeId) : Var (W.alloc (.cells #[v] t)) W.heap.size v := ⟨by go_simp, by go_simp⟩
theorem Var.old {W : World} {b : Nat} {v : Value} (h : Var W b v) (o : Obj) : Var (W.alloc o) b v := h.below ((Below.refl _ _).alloc (Nat.le_refl _) _)
theorem Var.set {V : World} {b : Nat} {v : Value} (h : Var V b v) (u : Value) : Var (V.setCell ⟨b, 0, none⟩ u) b u :=
 ⟨World.cell?_setCell_same _ _ _ h.val, by rw [World.frozen?_setCell]; exact h.free⟩
theorem Var.other {V : World} {b c : Nat} {v : Value} (h : Var V b v) (hn : b ≠ c) (o : Nat) (u : Value) : Var (V.setCell ⟨c, o, none⟩ u) b v :=
 h.touch (G := [c]) ((Touch.refl _ _).set (.inl (by simp)) u) (by simpa using hn)
def WayZ {α : Type} (i : Nat) (lb : Array Value) (enc : α → Array Value) (ok : Nat → α → World → List Nat → Prop) (m : Nat) (B : List Nat) (W : World) : Prop :=
 ∀ (l : Nat) (J : Nat → World → List Nat → Prop) (Q : World → List Nat → Prop) (Y0 : List Nat), (∀ q ∈ Y0, q < W.heap.size) → J 0 W Y0 → (∀ n, Abid (J n)) → Abid Q →
  (∀ n x w Y Z, n < m → ok n x w Z → J n w Y → (∀ q ∈ Z ++ Y, q < w.heap.size) → (∀ q ∈ Z, W.heap.size ≤ q ∧ q ∉ Y) → YieldAt Fence.wide 0 Tryz.prog l (enc x) w fun e w' =>
   ∃ Y', Left B (Z ++ Y) w w' Y' ∧ ((e = .returned (.bool true) ∧ J (n + 1) w' Y') ∨ (e = .returned (.bool false) ∧ Q w' Y'))) →
  Calls Tryz.prog i (#[.func (.yield l) #[] #[]] ++ lb) W fun e w' => e = .returned (.tuple #[]) ∧ ∃ Y, Left B Y0 W w' Y ∧ (J m w' Y ∨ Q w' Y)
theorem ymu {g : Operand} {ps : Array Tmp} {assign body : Code} {Q : Exit → Act → World → Prop} {a : Act} {w : World} {gf : Nat} {lb : Array Value}
  (hg : a.eval g = .func (.func gf) #[] lb) (eg : ∀ args w, (callFunc gf args).run Tryz.prog w = .ok (.enter gf args) w) {α : Type} {enc : α → Array Value} {ok : Nat → α → World → List Nat → Prop} {m : Nat} {B : List Nat}
  (hok : ∀ n x, Abid (ok n x))
  (hw : ∀ W, Below w.heap.size w W → WayZ gf lb enc ok m B W) (hB : ∀ q ∈ B, q < w.heap.size) (hps : ∀ x, (enc x).size = ps.size)
  (I : Nat → World → List Nat → Prop) (Ix : Code → World → List Nat → Prop) (Y0 : List Nat) (hY0 : ∀ q ∈ Y0, q < w.heap.size) (h0 : I 0 w Y0) (hI : ∀ n, Abid (I n)) (hIx : ∀ c, Abid (Ix c)) (a₁ : α → Act)
  (hassign : ∀ (l : Nat) (x : α) (W : World) (K : Act → World → Prop), K (a₁ x) W →
   assign.wpIn (Fence.wide.inRound l) 0 Tryz.prog (Exit.then K (fun _ _ _ => False)) { tmps := (ps.zip (enc x)).foldl (fun t (p, v) => t.setIfInBounds p v) a.tmps, defers := [] } W)
  (hbody : ∀ (l n : Nat) (x : α) (W : World) (Y Z : List Nat), w.heap.size ≤ W.heap.size → n < m → ok n x W Z → I n W Y → (∀ q ∈ Z ++ Y, q < W.heap.size) → (∀ q ∈ Z, w.heap.size ≤ q ∧ q ∉ Y) → body.wpIn (Fence.wide.inRound l) 0 Tryz.prog (yic B (Z ++ Y) W (I (n + 1)) Ix) (a₁ x) W)
  (hdone : ∀ (D : Nat) (W : World) (Y : List Nat), w.heap.size ≤ D → D ∉ Y → Left B Y0 w W Y → I m W Y → W.heap[D]? = some (.deferred (some [])) → Q .normal { a with defers := { target := .collected D, args := #[] } :: a.defers } W)
  (hstop : ∀ (D : Nat) (c : Code) (W : World) (Y : List Nat), w.heap.size ≤ D → D ∉ Y → Left B Y0 w W Y → Ix c W Y → W.heap[D]? = some (.deferred (some [])) → c.wpIn Fence.wide 0 Tryz.prog Q { a with defers := { target := .collected D, args := #[] } :: a.defers } W) :
  (Code.rangeFunc g ps assign body).wpIn Fence.wide 0 Tryz.prog Q a w := by
 refine wpIn_rangeFunc fun fn hfn => ?_
 obtain ⟨rec, hrec⟩ : ∃ rec : LoopState → Option Code → Loop, rec = fun st pe => { state := st, pending := pe, fn, tmps := a.tmps, params := ps, assign, body, defers := w.heap.size } := ⟨_, rfl⟩
 obtain ⟨D, hD⟩ : ∃ D, D = w.heap.size := ⟨_, rfl⟩
 obtain ⟨W1, hW1⟩ : ∃ W1, (w.alloc (.deferred (some []))).alloc (.loop (rec .ready none)) = W1 := ⟨_, rfl⟩
 have b1 : Below w.heap.size w W1 := by
  rw [← hW1]; exact ((Below.refl _ w).alloc (Nat.le_refl _) _).alloc (by simp) _
 have s1 : W1.heap.size = D + 2 := by rw [← hW1, hD]; simp
 have l1 : W1.heap[D + 1]? = some (.loop (rec .ready none)) := by
  rw [← hW1, hD]
  have := World.alloc_heap_new (w.alloc (.deferred (some []))) (.loop (rec .ready none))
  rwa [World.size_alloc] at this
 have k1 : W1.heap[D]? = some (.deferred (some [])) := by
  rw [← hW1, hD]
  exact (Below.heap_alloc _ _ _ (by simp)).trans (World.alloc_heap_new w _)
 have i1 : I 0 W1 Y0 := hI 0 w W1 Y0 [] h0 (Touch.ofBelow b1) (by simp)
 have hBD : ∀ q ∈ B, q < D := fun q hq => hD ▸ hB q hq
 have hYD : ∀ q ∈ Y0, q < D := fun q hq => hD ▸ hY0 q hq
 obtain ⟨T, hT⟩ : ∃ T : LoopState → Option Code → World → Prop, T = fun st pe W => W.heap[D + 1]? = some (.loop (rec st pe)) ∧ W.heap[D]? = some (.deferred (some [])) := ⟨_, rfl⟩
 have hTa : ∀ {st pe W W' G}, T st pe W → Touch G W W' → D ∉ G → D + 1 ∉ G → T st pe W' := by
  intro st pe W W' G h t n1 n2
  rw [hT] at h ⊢
  exact ⟨(t.block _ (Array.getElem?_eq_some_iff.1 h.1).1 n2).trans h.1, (t.block _ (Array.getElem?_eq_some_iff.1 h.2).1 n1).trans h.2⟩
 have hWay := hw W1 b1 (D + 1)
  (fun n W Y => ∃ Y1, Y = D :: (D + 1) :: Y1 ∧ D ∉ Y1 ∧ D + 1 ∉ Y1 ∧ I n W Y1 ∧ T .ready none W)
  (fun W Y => ∃ Y1 c, Y = D :: (D + 1) :: Y1 ∧ D ∉ Y1 ∧ D + 1 ∉ Y1 ∧ Ix c W Y1 ∧ T .done (some c) W)
  (D :: (D + 1) :: Y0) (by
   intro q hq
   rw [s1]
   simp at hq
   rcases hq with h | h | h
   ·omega
   ·omega
   ·have := hYD q h; omega)
  ⟨Y0, rfl, fun h => by have := hYD _ h; omega, fun h => by have := hYD _ h; omega, i1, by rw [hT]; exact ⟨l1, k1⟩⟩
  (fun n W W' Y G ⟨Y1, e, n1, n2, h1, h2⟩ t hn => by
   subst e
   exact ⟨Y1, rfl, n1, n2, hI n W W' Y1 G h1 t (fun q hq => hn q (by simp [hq])), hTa h2 t (hn D (by simp)) (hn (D + 1) (by simp))⟩)
  (fun W W' Y G ⟨Y1, c, e, n1, n2, h1, h2⟩ t hn => by
   subst e
   exact ⟨Y1, c, rfl, n1, n2, hIx c W W' Y1 G h1 t (fun q hq => hn q (by simp [hq])), hTa h2 t (hn D (by simp)) (hn (D + 1) (by simp))⟩)
  (by
   rintro n x W Y Z hnm hox ⟨Y1, rfl, n1, n2, hi, ht⟩ hY hZ
   have hZD : ∀ q ∈ Z, D + 2 ≤ q := fun q hq => by have := (hZ q hq).1; omega
   have m1 : D ∉ Z ++ Y1 := fun z => (List.mem_append.1 z).elim (fun z => by have := hZD D z; omega) n1
   have m2 : D + 1 ∉ Z ++ Y1 := fun z => (List.mem_append.1 z).elim (fun z => by have := hZD (D + 1) z; omega) n2
   have ht0 := ht
   rw [hT] at ht
   obtain ⟨hl, hk⟩ := ht
   have hlt : D + 1 < W.heap.size := (Array.getElem?_eq_some_iff.1 hl).1
   have hy := run_yield (P := Tryz.prog) (args := enc x) hl (by rw [hrec]; exact hps x)
   rw [hrec] at hy
   refine ⟨fn, _, assign, body, hy, roundIn_of_wpIn hfn (hassign _ x W _ ⟨_, run_beginRound hl (by rw [hrec]), ?_⟩)⟩
   obtain ⟨V, hV⟩ : ∃ V, V = W.putObj (D + 1) (.loop { rec .ready none with state := .busy }) := ⟨_, rfl⟩
   have t2 : Touch [D + 1] W V := by rw [hV]; exact (Touch.refl _ _).put (.inl (by simp)) _
   have sV : V.heap.size = W.heap.size := by rw [hV]; simp
   have l2 : V.heap[D + 1]? = some (.loop { rec .ready none with state := .busy }) := by rw [hV]; exact World.putObj_heap_same hlt
   have k2 : V.heap[D]? = some (.deferred (some [])) := by rw [hV]; exact (World.putObj_heap_other (by omega)).trans hk
   have i2 : I n V Y1 := hI n W V Y1 _ hi t2 (fun q hq e => by simp at e; exact n2 (e ▸ hq))
   rw [← hV]
   have o2 : ok n x V Z := hok n x W V Z _ hox t2 (fun q hq e => by simp at e; have := hZD q hq; omega)
   have y2 : ∀ q ∈ Z ++ Y1, q < V.heap.size := fun q hq => by
    rw [sV]
    rcases List.mem_append.1 hq with z | z
    ·exact hY q (by simp [z])
    ·exact hY q (by simp [z])
   refine wpIn_mono (hbody _ n x V Y1 Z (by rw [sV]; omega) hnm o2 i2 y2 (fun q hq => ⟨by have := hZD q hq; omega, fun z => (hZ q hq).2 (by simp [z])⟩)) ?_
   have fin : ∀ (jump : Option Code) (W3 : World) (Y3 : List Nat), Left B (Z ++ Y1) V W3 Y3 →
     (Instr.endRound (D + 1) jump).run Tryz.prog W3 = .ok (.bool jump.isNone) (W3.putObj (D + 1) (.loop (rec (if jump.isNone then .ready else .done) jump))) ∧
     Touch [D + 1] W3 (W3.putObj (D + 1) (.loop (rec (if jump.isNone then .ready else .done) jump))) ∧ D ∉ Y3 ∧ D + 1 ∉ Y3 ∧
     T (if jump.isNone then .ready else .done) jump (W3.putObj (D + 1) (.loop (rec (if jump.isNone then .ready else .done) jump))) ∧
     Left B (Z ++ D :: (D + 1) :: Y1) W (W3.putObj (D + 1) (.loop (rec (if jump.isNone then .ready else .done) jump))) (D :: (D + 1) :: Y3) := by
    intro jump W3 Y3 h3
    have hs3 := h3.size
    obtain ⟨⟨G, t3, g3⟩, y3⟩ := h3
    have d1 : D ∉ G := fun h => m1 (g3 _ h).1
    have d2 : D + 1 ∉ G := fun h => m2 (g3 _ h).1
    have l3 : W3.heap[D + 1]? = some (.loop { rec .ready none with state := .busy }) := (t3.block _ (by omega) d2).trans l2
    have k3 : W3.heap[D]? = some (.deferred (some [])) := (t3.block _ (by omega) d1).trans k2
    have e1 : D ∉ Y3 := fun h => by
     rcases (y3 _ h).2 with z | z
     ·exact m1 z
     ·omega
    have e2 : D + 1 ∉ Y3 := fun h => by
     rcases (y3 _ h).2 with z | z
     ·exact m2 z
     ·omega
    have hr := run_endRound (P := Tryz.prog) jump l3
    rw [hrec] at hr ⊢
    refine ⟨hr, (Touch.refl _ _).put (.inl (by simp)) _, e1, e2, by rw [hT, hrec]; exact ⟨World.putObj_heap_same (by omega), (World.putObj_heap_other (by omega)).trans k3⟩, ⟨(D + 1) :: G, ?_, ?_⟩, ?_⟩
    ·exact ((t2.mono (G := (D + 1) :: G) (fun x hx => by simp at hx; simp [hx])).trans t3 (fun x hx => .inl (by simp [hx]))).put (.inl (by simp)) _
    ·intro q hq
     rcases List.mem_cons.1 hq with rfl | z
     ·exact ⟨by simp, fun hb => by have := hBD _ hb; omega⟩
     ·refine ⟨?_, (g3 q z).2⟩
      rcases List.mem_append.1 (g3 q z).1 with y | y
      ·simp [y]
      ·simp [y]
    ·intro q hq
     simp only [World.putObj_size]
     simp at hq
     rcases hq with rfl | rfl | z
     ·exact ⟨by omega, .inl (by simp)⟩
     ·exact ⟨by omega, .inl (by simp)⟩
     ·obtain ⟨z1, z2⟩ := y3 q z
      refine ⟨z1, z2.imp (fun z => ?_) (fun z => by omega)⟩
      rcases List.mem_append.1 z with y | y
      ·simp [y]
      ·simp [y]
   rintro e a3 W3 hp
   cases e with
   | normal =>
    obtain ⟨Y3, h3, i3⟩ := hp
    obtain ⟨f1, f2, f3, f4, f5, f6⟩ := fin none W3 Y3 h3
    exact ⟨_, _, f1, _, f6, .inl ⟨rfl, Y3, rfl, f3, f4, hI _ _ _ _ _ i3 f2 (fun q hq e => by simp at e; exact f4 (e ▸ hq)), f5⟩⟩
   | ret =>
    obtain ⟨Y3, h3, i3⟩ := hp
    obtain ⟨f1, f2, f3, f4, f5, f6⟩ := fin (some .ret) W3 Y3 h3
    exact ⟨_, _, f1, _, f6, .inr ⟨rfl, Y3, _, rfl, f3, f4, hIx _ _ _ _ _ i3 f2 (fun q hq e => by simp at e; exact f4 (e ▸ hq)), f5⟩⟩
   | exit id =>
    obtain ⟨Y3, h3, i3⟩ := hp
    obtain ⟨f1, f2, f3, f4, f5, f6⟩ := fin (some (.exit id)) W3 Y3 h3
    exact ⟨_, _, f1, _, f6, .inr ⟨rfl, Y3, _, rfl, f3, f4, hIx _ _ _ _ _ i3 f2 (fun q hq e => by simp at e; exact f4 (e ▸ hq)), f5⟩⟩
   | goto t =>
    obtain ⟨Y3, h3, i3⟩ := hp
    obtain ⟨f1, f2, f3, f4, f5, f6⟩ := fin (some (.goto t)) W3 Y3 h3
    exact ⟨_, _, f1, _, f6, .inr ⟨rfl, Y3, _, rfl, f3, f4, hIx _ _ _ _ _ i3 f2 (fun q hq e => by simp at e; exact f4 (e ▸ hq)), f5⟩⟩
   | panic ch => exact hp.elim
   | outgrown => exact hp.elim)
 refine ⟨D + 1, [{ target := .collected D, args := #[] }], W1, { target := .fn (.func gf) lb, args := #[.func (.yield (D + 1)) #[] #[]] }, W1, gf, #[.func (.yield (D + 1)) #[] #[]] ++ lb, W1, ?_, ?_, fun _ _ => trivial, ?_, (fun h => by simp [Fence.wide] at h), ?_⟩
 ·rw [← hW1, hrec, hD]
  exact run_enterLoop_outer _ _ _ _ _
 ·simp only [resolve, hg]
  simp [go_sem]
 ·simp [invoke, go_sem, eg]
 ·refine (callsIn_wide.2 hWay).mono ?_
  have back : ∀ {W2 Y1 o}, Left B (D :: (D + 1) :: Y0) W1 W2 (D :: (D + 1) :: Y1) → D ∉ Y1 → D + 1 ∉ Y1 → Touch [D + 1] W2 (W2.putObj (D + 1) o) ∧ Left B Y0 w (W2.putObj (D + 1) o) Y1 := by
   intro W2 Y1 o h n1 n2
   have hs := h.size
   obtain ⟨⟨G, t, hG⟩, hY⟩ := h
   refine ⟨(Touch.refl _ _).put (.inl (by simp)) _, ⟨G.filter (fun q => decide (q < D)), ?_, ?_⟩, ?_⟩
   ·have z : Touch (G.filter (fun q => decide (q < D))) w W2 := (Touch.ofBelow b1).trans t (fun x hx => by
     by_cases z : x < D
     ·exact .inl (List.mem_filter.2 ⟨hx, by simpa using z⟩)
     ·exact .inr (by omega))
    exact z.put (.inr (by omega)) _
   ·intro q hq
    obtain ⟨z1, z2⟩ := List.mem_filter.1 hq
    have z2 := of_decide_eq_true z2
    obtain ⟨y1, y2⟩ := hG q z1
    simp at y1
    rcases y1 with y | y | y
    ·omega
    ·omega
    ·exact ⟨y, y2⟩
   ·intro q hq
    obtain ⟨z1, z2⟩ := hY q (by simp [hq])
    refine ⟨by simpa using z1, ?_⟩
    rcases z2 with z | z
    ·simp at z
     rcases z with rfl | rfl | z
     ·exact absurd hq n1
     ·exact absurd hq n2
     ·exact .inl z
    ·exact .inr (by omega)
  rintro e W2 ⟨rfl, Y, hL, (⟨Y1, rfl, n1, n2, hi, ht⟩ | ⟨Y1, c, rfl, n1, n2, hi, ht⟩)⟩
  ·rw [hT] at ht
   obtain ⟨b2, b3⟩ := back (o := .loop { rec .ready none with state := .exhausted }) hL n1 n2
   have h9 := run_endLoop (P := Tryz.prog) ht.1 (by rw [hrec]; simp)
   refine ⟨none, _, by rw [hrec] at h9; exact h9, ?_⟩
   rw [hrec] at b2 b3
   exact hdone D _ Y1 (by omega) n1 b3 (hI _ _ _ _ _ hi b2 (fun q hq e => by simp at e; exact n2 (e ▸ hq))) ((World.putObj_heap_other (by omega)).trans ht.2)
  ·rw [hT] at ht
   obtain ⟨b2, b3⟩ := back (o := .loop { rec .done (some c) with state := .exhausted }) hL n1 n2
   have h9 := run_endLoop (P := Tryz.prog) ht.1 (by rw [hrec]; simp)
   refine ⟨some c, _, by rw [hrec] at h9; exact h9, ?_⟩
   rw [hrec] at b2 b3
   exact hstop D c _ Y1 (by omega) n1 b3 (hIx _ _ _ _ _ hi b2 (fun q hq e => by simp at e; exact n2 (e ▸ hq))) ((World.putObj_heap_other (by omega)).trans ht.2)
def WayY {α : Type} (i : Nat) (lb : Array Value) (enc : α → Array Value) (xs : List α) (B : List Nat) (W : World) : Prop :=
 ∀ (l : Nat) (J : Nat → World → List Nat → Prop) (Q : World → List Nat → Prop) (Y0 : List Nat), (∀ q ∈ Y0, q < W.heap.size) → J 0 W Y0 → (∀ n, Abid (J n)) → Abid Q →
  (∀ n x w Y, xs[n]? = some x → J n w Y → (∀ q ∈ Y, q < w.heap.size) → YieldAt Fence.wide 0 Tryz.prog l (enc x) w fun e w' =>
   ∃ Y', Left B Y w w' Y' ∧ ((e = .returned (.bool true) ∧ J (n + 1) w' Y') ∨ (e = .returned (.bool false) ∧ Q w' Y'))) →
  Calls Tryz.prog i (#[.func (.yield l) #[] #[]] ++ lb) W fun e w' => e = .returned (.tuple #[]) ∧ ∃ Y, Left B Y0 W w' Y ∧ (J xs.length w' Y ∨ Q w' Y)
theorem wp_seq {g : Operand} {ps : Array Tmp} {assign body : Code} {Q : Exit → Act → World → Prop} {a : Act} {w : World} {gf : Nat} {lb : Array Value}
  (hg : a.eval g = .func (.func gf) #[] lb) (eg : ∀ args w, (callFunc gf args).run Tryz.prog w = .ok (.enter gf args) w) {α : Type} {enc : α → Array Value} {xs : List α} {B : List Nat}
  (hw : ∀ W, Below w.heap.size w W → WayY gf lb enc xs B W) (hB : ∀ q ∈ B, q < w.heap.size) (hps : ∀ x, (enc x).size = ps.size)
  (I : Nat → World → List Nat → Prop) (Ix : Code → World → List Nat → Prop) (Y0 : List Nat) (hY0 : ∀ q ∈ Y0, q < w.heap.size) (h0 : I 0 w Y0) (hI : ∀ n, Abid (I n)) (hIx : ∀ c, Abid (Ix c)) (a₁ : α → Act)
  (hassign : ∀ (l : Nat) (x : α) (W : World) (K : Act → World → Prop), K (a₁ x) W →
   assign.wpIn (Fence.wide.inRound l) 0 Tryz.prog (Exit.then K (fun _ _ _ => False)) { tmps := (ps.zip (enc x)).foldl (fun t (p, v) => t.setIfInBounds p v) a.tmps, defers := [] } W)
  (hbody : ∀ (l n : Nat) (x : α) (W : World) (Y : List Nat), w.heap.size ≤ W.heap.size → xs[n]? = some x → I n W Y → (∀ q ∈ Y, q < W.heap.size) → body.wpIn (Fence.wide.inRound l) 0 Tryz.prog (yic B Y W (I (n + 1)) Ix) (a₁ x) W)
  (hdone : ∀ (D : Nat) (W : World) (Y : List Nat), w.heap.size ≤ D → D ∉ Y → Left B Y0 w W Y → I xs.length W Y → W.heap[D]? = some (.deferred (some [])) → Q .normal { a with defers := { target := .collected D, args := #[] } :: a.defers } W)
  (hstop : ∀ (D : Nat) (c : Code) (W : World) (Y : List Nat), w.heap.size ≤ D → D ∉ Y → Left B Y0 w W Y → Ix c W Y → W.heap[D]? = some (.deferred (some [])) → c.wpIn Fence.wide 0 Tryz.prog Q { a with defers := { target := .collected D, args := #[] } :: a.defers } W) :
  (Code.rangeFunc g ps assign body).wpIn Fence.wide 0 Tryz.prog Q a w := by
 refine ymu (ok := fun n x _ Z => xs[n]? = some x ∧ Z = []) (m := xs.length) (B := B) hg eg (fun _ _ _ _ _ _ h _ _ => h) (fun W hW => ?_) hB hps I Ix Y0 hY0 h0 hI hIx a₁ hassign (fun l n x W Y Z hW _ hx hi hY _ => ?_) hdone hstop
 ·intro l J Q Y1 h1 h2 h3 h4 h5
  exact hw W hW l J Q Y1 h1 h2 h3 h4 (fun n x w Y hx hj hy => h5 n x w Y [] (List.getElem?_eq_some_iff.1 hx).1 ⟨hx, rfl⟩ hj hy (by simp))
 ·obtain ⟨hx, rfl⟩ := hx
  exact hbody l n x W Y hW hx hi hY
def yfs : List Value → Nat → List Value → List Value
 | xs, _, [] => xs
 | xs, o, v :: r => yfs (xs.set o v) (o + 1) r
theorem ymv : ∀ (vs xs : List Value) (o : Nat), o + vs.length ≤ xs.length → yfs xs o vs = xs.take o ++ vs ++ xs.drop (o + vs.length)
 | [], xs, o, _ => by simp [yfs]
 | v :: r, xs, o, h => by
  simp only [List.length_cons] at h
  rw [yfs, ymv r _ _ (by rw [List.length_set]; omega), List.drop_set, if_pos (by omega), List.take_set, List.take_succ_eq_append_getElem (show o < xs.length by omega), List.set_append_right _ _ (by rw [List.length_take]; omega), List.length_take, Nat.min_eq_left (by omega), Nat.sub_self, List.set_cons_zero]
  simp only [List.length_cons, List.append_assoc, List.cons_append, List.nil_append]
  rw [show o + 1 + r.length = o + (r.length + 1) by omega]
theorem yj8 {base e size g n c : Nat} : ∀ (vs : List Value) (w : World) (o : Nat) (xs : List Value), w.ownsRow base e size (.slice (some ⟨g, 0, none⟩) n c) n xs → o + vs.length ≤ xs.length → (w.setCells g o vs).ownsRow base e size (.slice (some ⟨g, 0, none⟩) n c) n (yfs xs o vs)
 | [], _, _, _, h, _ => h
 | v :: r, _, o, _, h, hl => yj8 r _ _ _ (h.stored o v).1 (by simp at hl ⊢; omega)
theorem ymw {α : Type} {enc : α → Array Value} {m : Nat} (h : ∀ x, (enc x).size = m) (l : List α) (k : Nat) (r : α) (hk : k < l.length) : yfs (rowC enc l) (k * m) (enc r).toList = rowC enc (l.set k r) := by
 have h21 : (enc r).toList.length = m := by rw [Array.length_toList, h]
 have hl := ydh h l
 have hkm : (k + 1) * m ≤ l.length * m := Nat.mul_le_mul_right _ hk
 rw [Nat.add_mul] at hkm
 rw [ymv _ _ _ (by rw [h21, hl]; omega), h21, show k * m + m = (k + 1) * m by rw [Nat.add_mul]; omega, yqx h, yl1 h, List.set_eq_take_append_cons_drop, if_pos hk, ← yjj enc r, ← yc2, ← yc2]
 simp
theorem yca {W : World} {q : Nat} {o : Obj} (h : W.heap[q]? = some o) : q < W.heap.size := (Array.getElem?_eq_some_iff.1 h).1
theorem yaw {w : World} {b o : Nat} {cs : Array Value} {T : TypeId} {v : Value} (hb : w.heap[b]? = some (.cells cs T)) (hv : cs[o]? = some v) : w.cell? ⟨b, o, none⟩ = some v := by rw [Lib.cell_of_heap hb, hv]
theorem ygo {w : World} {g : Nat} {old : Array Value} {T : TypeId} (cs : Array Value) (h : w.heap[g]? = some (.cells old T)) : (w.setRow g cs).heap[g]? = some (.cells cs T) := by
 simp [World.setRow, Array.getElem?_modify, h]
theorem ys1 (w : World) (g : Nat) (cs : Array Value) : Touch [g] w (w.setRow g cs) :=
 (Touch.refl [g] w).grown (ydg w g cs) (fun k hk => .inl (by simp [Option.some.inj hk]))
theorem yj9 {w : World} {g B : Nat} (cs : Array Value) (h : B ≤ g) : Below B w (w.setRow g cs) := by
 have t := ys1 w g cs
 exact ⟨t.os, t.tape, t.output, t.size, fun k hk => by
  simp only [World.setRow]
  rw [Array.getElem?_modify]
  split
  ·omega
  ·rfl⟩
theorem yka (w : World) (old cs : Array Value) (T : TypeId) : Below w.heap.size w ((w.alloc (.cells old T)).setRow w.heap.size cs) := ((Below.refl _ _).alloc (Nat.le_refl _) _).trans (yj9 _ (Nat.le_refl _))
abbrev oC (nd : Int) (p : AO) : Array Value := #[.int .u64 (p.f : Nat), .int .u64 (p.t : Nat), .int .i64 nd, .int .i64 p.e]
theorem ycf (nd : Int) (p : AO) : (oC nd p).size = 4 := rfl
theorem yev (nd : Int) (l : List AO) : ∀ u ∈ rowC (oC nd) l, u.oneCell' = true := yjk fun p _ => by simp [oC, Value.oneCell']
theorem ymx : (Tryz.prog.info? 152).map (·.size) = some 4 := by kernel_rfl
abbrev ya9 (W : World) (S : Value) (n : Nat) (nd : Int) (l : List AO) : Prop := OwnAt W 152 4 S n (rowC (oC nd) l)
theorem yc8 {W : World} {n : Nat} {S : Value} {nd : Int} {l : List AO} (h : ya9 W S n nd l) : l.length = n := by
 have := h.1
 rw [ydh (ycf nd)] at this
 omega
theorem ykb {W : World} {q o c n k : Nat} {nd : Int} {l : List AO} (h : ya9 W (.slice (some ⟨q, o, none⟩) n c) n nd l) {x : AO} (hk : l[k]? = some x) : W.rangeAt q (o + k * 4) (oC nd x).toList := by
 intro j v hj
 have hl : k < l.length := (List.getElem?_eq_some_iff.1 hk).1
 have hj4 : j < 4 := (List.getElem?_eq_some_iff.1 hj).1
 have hlen := ydh (ycf nd) l
 have := h.cellAt (k * 4 + j) (by rw [hlen]; omega)
 rw [Nat.add_assoc, this, yeo (ycf nd) l k j x hk hj4, ← Array.getElem?_toList]
 exact hj
theorem ygp {W : World} {q o c n : Nat} {e : TypeId} {size : Nat} {xs : List Value} (h : OwnAt W e size (.slice (some ⟨q, o, none⟩) n c) n xs) (i : Nat) : W.frozen? ⟨q, i, none⟩ = false := by
 rcases h.2 with ⟨h0, _⟩ | ⟨q', o', c', cur, hv, hg, _⟩
 ·cases h0
 ·injection hv with h1 _ _
  injection h1 with h1
  injection h1 with h1 _ _
  subst h1
  simp [World.frozen?, hg]
theorem ymy (W : World) (nd : Int) (p : AO) (T : TypeId) : (W.alloc (.cells (oC nd p) T)).cell? ⟨W.heap.size, 0, none⟩ = some (.int .u64 (p.f : Nat)) ∧ (W.alloc (.cells (oC nd p) T)).cell? ⟨W.heap.size, 1, none⟩ = some (.int .u64 (p.t : Nat)) ∧ (W.alloc (.cells (oC nd p) T)).cell? ⟨W.heap.size, 2, none⟩ = some (.int .i64 nd) ∧ (W.alloc (.cells (oC nd p) T)).cell? ⟨W.heap.size, 3, none⟩ = some (.int .i64 p.e) :=
 ⟨yaw (heap_alloc_new W _) rfl, yaw (heap_alloc_new W _) rfl, yaw (heap_alloc_new W _) rfl, yaw (heap_alloc_new W _) rfl⟩
def ygq (x : Nat) (p : AO) : Bool := inB p.f p.t x
def yew (f t : Nat) (p : AO) : Bool := !yat p.f p.t f t
theorem ys2 (p : AO) (nd : Int) (x b : Nat) (W : World) (hp : p.lt) (hx : x < 18446744073709551616) (hb : W.cell? ⟨b, 0, none⟩ = some (.int .u64 (x : Nat))) :
  Calls Tryz.prog 112 #[.agg (oC nd p), .pointer (some ⟨b, 0, none⟩)] W fun e w' => e = .returned (.bool (ygq x p)) ∧ Below W.heap.size W w' := by
 have CI := Lib.hid fun W => ydz p.f p.t x W hp.1 hp.2 hx
 have B1 : Below W.heap.size W (W.alloc (.cells (oC nd p) 152)) := (Below.refl _ _).alloc (Nat.le_refl _) _
 obtain ⟨c0, c1, _⟩ := ymy W nd p 152
 have cb := (B1.cell (p := ⟨b, 0, none⟩) (World.block_lt_of_cell? W _ hb)).trans hb
 unfold ygq
 generalize inB p.f p.t x = r at *
 clear hb
 go_enter Tryz.func112, Tryz.ntmps112
 go_upto_region 1 with fail
 obtain ⟨w1, hw1⟩ : ∃ w1, W.alloc (.cells (oC nd p) 152) = w1 := ⟨_, rfl⟩
 rw [hw1] at B1 c0 c1 cb ⊢
 clear hw1
 have HB := Lib.hid B1
 clear B1
 go_wp2_with (go_at_call 113; (with_reducible refine (CI.out _).mono ?_); rintro e w2 ⟨rfl, hb2⟩; have HB2 := Lib.hid (acc HB.out hb2); clear hb2)
 go_ret
 exact ⟨rfl, HB2.out⟩
theorem ys3 (p : AO) (nd : Int) (f t b : Nat) (W : World) (hp : p.lt) (hf : f < 18446744073709551616) (ht : t < 18446744073709551616) (hb : W.cell? ⟨b, 0, none⟩ = some (.int .u64 (f : Nat))) (hb1 : W.cell? ⟨b, 1, none⟩ = some (.int .u64 (t : Nat))) :
  Calls Tryz.prog 170 #[.agg (oC nd p), .pointer (some ⟨b, 0, none⟩)] W fun e w' => e = .returned (.bool (yew f t p)) ∧ Below W.heap.size W w' := by
 have CI := Lib.hid fun W => ymf p.f p.t f t W hp.1 hp.2 hf ht
 have B1 : Below W.heap.size W (W.alloc (.cells (oC nd p) 152)) := (Below.refl _ _).alloc (Nat.le_refl _) _
 obtain ⟨c0, c1, _⟩ := ymy W nd p 152
 have cb := (B1.cell (p := ⟨b, 0, none⟩) (World.block_lt_of_cell? W _ hb)).trans hb
 have cb1 := (B1.cell (p := ⟨b, 1, none⟩) (World.block_lt_of_cell? W _ hb1)).trans hb1
 unfold yew
 generalize yat p.f p.t f t = r at *
 clear hb hb1
 go_enter Tryz.func170, Tryz.ntmps170
 go_upto_region 1 with fail
 obtain ⟨w1, hw1⟩ : ∃ w1, W.alloc (.cells (oC nd p) 152) = w1 := ⟨_, rfl⟩
 rw [hw1] at B1 c0 c1 cb cb1 ⊢
 clear hw1
 have HB := Lib.hid B1
 clear B1
 go_wp2_with (go_at_call 171; (with_reducible refine (CI.out _).mono ?_); rintro e w2 ⟨rfl, hb2⟩; have HB2 := Lib.hid (acc HB.out hb2); clear hb2)
 go_ret
 exact ⟨rfl, HB2.out⟩
theorem ys4 (l : List AO) (nd : Int) (pr : AO → Bool) (b : Nat) (A : Option Addr) (c n : Nat) (W : World) (hl : n ≤ 100000) (hr : ya9 W (.slice A n c) n nd l)
  (hc : ∀ (w : World) (x : AO), Below W.heap.size W w → x ∈ l → Calls Tryz.prog 112 #[.agg (oC nd x), .pointer (some ⟨b, 0, none⟩)] w fun e w' => e = .returned (.bool (pr x)) ∧ Below w.heap.size w w') :
  Calls Tryz.prog 169 #[.slice A n c, .func (.func 112) #[] #[.pointer (some ⟨b, 0, none⟩)]] W fun e w' => ∃ j : Int, e = .returned (.int .i64 j) ∧ (decide ((0 : Int) ≤ j) = l.any pr) ∧ Below W.heap.size W w' := by
 have CE := Lib.hid hc
 have hi : ∀ a w, (callFunc 112 a).run Tryz.prog w = .ok (.enter 112 a) w := fun _ _ => by kernel_rfl
 have hn := yc8 hr
 have HR : Hid (∀ (w : World) (k : Nat) (x : AO), Below W.heap.size W w → l[k]? = some x → ∃ g o, A = some ⟨g, o, none⟩ ∧ w.rangeAt g (o + k * 4) (oC nd x).toList) := fun w k x hw hk => by
  have hk' : k < l.length := (List.getElem?_eq_some_iff.1 hk).1
  obtain ⟨g, o, rfl⟩ := hr.at_ (by omega)
  exact ⟨g, o, rfl, ykb (hr.below hw) hk⟩
 have HN := Lib.hid hn
 have hsz : (Tryz.prog.info? 152).map (·.size) = some 4 := ymx
 clear hr hn hc
 go_enter Tryz.func169, Tryz.ntmps169
 go_wp2_with fail
 go_loopg [8] (n + 1) (fun gh s8 wx => ∃ i : Nat, i + gh = n + 1 ∧ i ≤ n ∧ s8 = .int .i64 (i : Nat) ∧ Hid (Below W.heap.size W wx) ∧ Hid (∀ j x, j < i → l[j]? = some x → pr x = false))
 case atStart => exact ⟨0, by omega, by omega, rfl, Below.refl _ _, fun j x hj => by omega⟩
 case round =>
  obtain ⟨i, hig, hin, rfl, HB, HF⟩ := hrel
  by_cases hlt : i < n
  ·obtain ⟨x, hx⟩ : ∃ x, l[i]? = some x := ⟨_, List.getElem?_eq_getElem (by rw [HN.out]; exact hlt)⟩
   obtain ⟨g, o, rfl, hra⟩ := HR.out wr i x HB.out hx
   have HRA := Lib.hid hra
   have HX := Lib.hid hx
   have i1 : (i : Int) < (n : Int) := by omega
   have CX := Lib.hid (CE.out wr x HB.out (List.mem_of_getElem? hx))
   obtain ⟨bb, hbb⟩ : ∃ bb, pr x = bb := ⟨_, rfl⟩
   rw [hbb] at CX
   have HBB := Lib.hid hbb
   clear hra hx hbb CE HR
   cases bb
   ·go_wp2_with (first
     | (refine wpList_load_mid rfl 152 (.tmp 14) rfl g (o + i * 4) rfl (oC nd x).toList _ HRA.out Tryz.underlying152 rfl hsz ?_)
     | (go_at_call 112; (with_reducible refine (CX.out).mono ?_); rintro e w2 ⟨rfl, hb2⟩; have HB2 := Lib.hid hb2; clear hb2))
    go_roundg (gk - 1)
    case measure => omega
    case rel => exact ⟨i + 1, by omega, by omega, by go_num, acc HB.out HB2.out, fun j y hj hy => by
     rcases Nat.lt_succ_iff_lt_or_eq.1 hj with z | rfl
     ·exact HF.out j y z hy
     ·rw [HX.out] at hy; injection hy with hy; subst hy; exact HBB.out⟩
   ·go_wp2_with (first
     | (refine wpList_load_mid rfl 152 (.tmp 14) rfl g (o + i * 4) rfl (oC nd x).toList _ HRA.out Tryz.underlying152 rfl hsz ?_)
     | (go_at_call 112; (with_reducible refine (CX.out).mono ?_); rintro e w2 ⟨rfl, hb2⟩; have HB2 := Lib.hid hb2; clear hb2))
    go_ret
    refine ⟨_, rfl, ?_, acc HB.out HB2.out⟩
    have h1 : l.any pr = true := List.any_eq_true.2 ⟨x, List.mem_of_getElem? HX.out, HBB.out⟩
    rw [h1]
    exact decide_eq_true (by omega)
  ·obtain rfl : i = n := by omega
   clear CE HR
   go_wp2_with fail
   go_ret
   refine ⟨_, rfl, ?_, HB.out⟩
   have h1 : l.any pr = false := List.any_eq_false.2 fun x hx => by
    obtain ⟨j, hj, rfl⟩ := List.getElem_of_mem hx
    have := HF.out j _ (by rw [← HN.out]; exact hj) (List.getElem?_eq_getElem hj)
    simpa using this
   rw [h1]
   exact decide_eq_false (by omega)
theorem ys5 (l : List AO) (nd : Int) (pr : AO → Bool) (b : Nat) (A : Option Addr) (c n : Nat) (W : World) (hl : n ≤ 100000) (hr : ya9 W (.slice A n c) n nd l)
  (hc : ∀ (w : World) (x : AO), Below W.heap.size W w → x ∈ l → Calls Tryz.prog 112 #[.agg (oC nd x), .pointer (some ⟨b, 0, none⟩)] w fun e w' => e = .returned (.bool (pr x)) ∧ Below w.heap.size w w') :
  Calls Tryz.prog 111 #[.slice A n c, .func (.func 112) #[] #[.pointer (some ⟨b, 0, none⟩)]] W fun e w' => e = .returned (.bool (l.any pr)) ∧ Below W.heap.size W w' := by
 have CI := Lib.hid (ys4 l nd pr b A c n W hl hr hc)
 clear hr hc
 go_enter Tryz.func111, Tryz.ntmps111
 go_wp2_with (go_at_call 169; (with_reducible refine (CI.out).mono ?_); rintro e w2 ⟨j, rfl, hj, hb2⟩; have HJ := Lib.hid hj; clear hj)
 go_ret
 exact ⟨by rw [← HJ.out]; rfl, hb2⟩
theorem ys6 (l : List AO) (nd : Int) (pr : AO → Bool) (b : Nat) (A : Option Addr) (c n : Nat) (W : World) (hl : n ≤ 100000) (hr : ya9 W (.slice A n c) n nd l)
  (hc : ∀ (w : World) (x : AO), Below W.heap.size W w → x ∈ l → Calls Tryz.prog 170 #[.agg (oC nd x), .pointer (some ⟨b, 0, none⟩)] w fun e w' => e = .returned (.bool (pr x)) ∧ Below w.heap.size w w') :
  Calls Tryz.prog 169 #[.slice A n c, .func (.func 170) #[] #[.pointer (some ⟨b, 0, none⟩)]] W fun e w' => ∃ j : Int, e = .returned (.int .i64 j) ∧ (decide ((0 : Int) ≤ j) = l.any pr) ∧ Below W.heap.size W w' := by
 have CE := Lib.hid hc
 have hi : ∀ a w, (callFunc 170 a).run Tryz.prog w = .ok (.enter 170 a) w := fun _ _ => by kernel_rfl
 have hn := yc8 hr
 have HR : Hid (∀ (w : World) (k : Nat) (x : AO), Below W.heap.size W w → l[k]? = some x → ∃ g o, A = some ⟨g, o, none⟩ ∧ w.rangeAt g (o + k * 4) (oC nd x).toList) := fun w k x hw hk => by
  have hk' : k < l.length := (List.getElem?_eq_some_iff.1 hk).1
  obtain ⟨g, o, rfl⟩ := hr.at_ (by omega)
  exact ⟨g, o, rfl, ykb (hr.below hw) hk⟩
 have HN := Lib.hid hn
 have hsz : (Tryz.prog.info? 152).map (·.size) = some 4 := ymx
 clear hr hn hc
 go_enter Tryz.func169, Tryz.ntmps169
 go_wp2_with fail
 go_loopg [8] (n + 1) (fun gh s8 wx => ∃ i : Nat, i + gh = n + 1 ∧ i ≤ n ∧ s8 = .int .i64 (i : Nat) ∧ Hid (Below W.heap.size W wx) ∧ Hid (∀ j x, j < i → l[j]? = some x → pr x = false))
 case atStart => exact ⟨0, by omega, by omega, rfl, Below.refl _ _, fun j x hj => by omega⟩
 case round =>
  obtain ⟨i, hig, hin, rfl, HB, HF⟩ := hrel
  by_cases hlt : i < n
  ·obtain ⟨x, hx⟩ : ∃ x, l[i]? = some x := ⟨_, List.getElem?_eq_getElem (by rw [HN.out]; exact hlt)⟩
   obtain ⟨g, o, rfl, hra⟩ := HR.out wr i x HB.out hx
   have HRA := Lib.hid hra
   have HX := Lib.hid hx
   have i1 : (i : Int) < (n : Int) := by omega
   have CX := Lib.hid (CE.out wr x HB.out (List.mem_of_getElem? hx))
   obtain ⟨bb, hbb⟩ : ∃ bb, pr x = bb := ⟨_, rfl⟩
   rw [hbb] at CX
   have HBB := Lib.hid hbb
   clear hra hx hbb CE HR
   cases bb
   ·go_wp2_with (first
     | (refine wpList_load_mid rfl 152 (.tmp 14) rfl g (o + i * 4) rfl (oC nd x).toList _ HRA.out Tryz.underlying152 rfl hsz ?_)
     | (go_at_call 170; (with_reducible refine (CX.out).mono ?_); rintro e w2 ⟨rfl, hb2⟩; have HB2 := Lib.hid hb2; clear hb2))
    go_roundg (gk - 1)
    case measure => omega
    case rel => exact ⟨i + 1, by omega, by omega, by go_num, acc HB.out HB2.out, fun j y hj hy => by
     rcases Nat.lt_succ_iff_lt_or_eq.1 hj with z | rfl
     ·exact HF.out j y z hy
     ·rw [HX.out] at hy; injection hy with hy; subst hy; exact HBB.out⟩
   ·go_wp2_with (first
     | (refine wpList_load_mid rfl 152 (.tmp 14) rfl g (o + i * 4) rfl (oC nd x).toList _ HRA.out Tryz.underlying152 rfl hsz ?_)
     | (go_at_call 170; (with_reducible refine (CX.out).mono ?_); rintro e w2 ⟨rfl, hb2⟩; have HB2 := Lib.hid hb2; clear hb2))
    go_ret
    refine ⟨_, rfl, ?_, acc HB.out HB2.out⟩
    have h1 : l.any pr = true := List.any_eq_true.2 ⟨x, List.mem_of_getElem? HX.out, HBB.out⟩
    rw [h1]
    exact decide_eq_true (by omega)
  ·obtain rfl : i = n := by omega
   clear CE HR
   go_wp2_with fail
   go_ret
   refine ⟨_, rfl, ?_, HB.out⟩
   have h1 : l.any pr = false := List.any_eq_false.2 fun x hx => by
    obtain ⟨j, hj, rfl⟩ := List.getElem_of_mem hx
    have := HF.out j _ (by rw [← HN.out]; exact hj) (List.getElem?_eq_getElem hj)
    simpa using this
   rw [h1]
   exact decide_eq_false (by omega)
theorem ys7 (l : List AO) (nd : Int) (pr : AO → Bool) (b : Nat) (A : Option Addr) (c n : Nat) (W : World) (hl : n ≤ 100000) (hr : ya9 W (.slice A n c) n nd l)
  (hc : ∀ (w : World) (x : AO), Below W.heap.size W w → x ∈ l → Calls Tryz.prog 170 #[.agg (oC nd x), .pointer (some ⟨b, 0, none⟩)] w fun e w' => e = .returned (.bool (pr x)) ∧ Below w.heap.size w w') :
  Calls Tryz.prog 111 #[.slice A n c, .func (.func 170) #[] #[.pointer (some ⟨b, 0, none⟩)]] W fun e w' => e = .returned (.bool (l.any pr)) ∧ Below W.heap.size W w' := by
 have CI := Lib.hid (ys6 l nd pr b A c n W hl hr hc)
 clear hr hc
 go_enter Tryz.func111, Tryz.ntmps111
 go_wp2_with (go_at_call 169; (with_reducible refine (CI.out).mono ?_); rintro e w2 ⟨j, rfl, hj, hb2⟩; have HJ := Lib.hid hj; clear hj)
 go_ret
 exact ⟨by rw [← HJ.out]; rfl, hb2⟩
end Go.Proofs.YtnjodhglbapnlaaGreat
