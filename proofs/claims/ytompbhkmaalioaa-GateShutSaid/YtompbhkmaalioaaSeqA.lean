/-
  The range over a way where the loop's variables are boxed (wp_seqA). (Written by tools/genSeqA.py out of wp_seq.)
-/
import Derived.Test.YtompbhkmaalioaaWayKit
namespace Go.Proofs.Ytompbhkmaalioaa
open Go.RowKit

/-- as wp_seq; the assignment to the loop's variables may make memory (a variable that is boxed) -/
theorem wp_seqA {g : Operand} {ps : Array Tmp} {assign body : Code} {Q : Exit → Act → World → Prop} {a : Act} {w : World} {gf : Nat} {lb : Array Value}
    (hg : a.eval g = .func (.func gf) #[] lb) (eg : ∀ args w, (callFunc gf args).run Try.prog w = .ok (.enter gf args) w) {α : Type} {enc : α → Array Value} {xs : List α} {B : List Nat}
    (hw : ∀ W, Below w.heap.size w W → WayY gf lb enc xs B W) (hB : ∀ q ∈ B, q < w.heap.size) (hps : ∀ x, (enc x).size = ps.size)
    (I : Nat → World → List Nat → Prop) (Ix : Code → World → List Nat → Prop) (Y0 : List Nat) (hY0 : ∀ q ∈ Y0, q < w.heap.size) (h0 : I 0 w Y0) (hI : ∀ n, Abid (I n)) (hIx : ∀ c, Abid (Ix c)) (Ax : Nat → World → α → Act → World → Prop)
    (hAx : ∀ n W x a1 W1 W2 G, Ax n W x a1 W1 → Touch G W1 W2 → (∀ q ∈ G, q < W.heap.size) → Ax n W x a1 W2)
    (hassign : ∀ (l n : Nat) (x : α) (W : World) (K : Act → World → Prop), xs[n]? = some x → (∀ a1 W1, Below W.heap.size W W1 → Ax n W x a1 W1 → K a1 W1) →
      assign.wpIn (Fence.wide.inRound l) 0 Try.prog (Exit.then K (fun _ _ _ => False)) { tmps := (ps.zip (enc x)).foldl (fun t (p, v) => t.setIfInBounds p v) a.tmps, defers := [] } W)
    (hbody : ∀ (l n : Nat) (x : α) (W0 W : World) (a1 : Act) (Y : List Nat), w.heap.size ≤ W0.heap.size → W0.heap.size ≤ W.heap.size → xs[n]? = some x → I n W Y → (∀ q ∈ Y, q < W0.heap.size) → Ax n W0 x a1 W → body.wpIn (Fence.wide.inRound l) 0 Try.prog (leftPost B Y W (I (n + 1)) Ix) a1 W)
    (hdone : ∀ (D : Nat) (W : World) (Y : List Nat), w.heap.size ≤ D → D ∉ Y → Left B Y0 w W Y → I xs.length W Y → W.heap[D]? = some (.deferred (some [])) → Q .normal { a with defers := { target := .collected D, args := #[] } :: a.defers } W)
    (hstop : ∀ (D : Nat) (c : Code) (W : World) (Y : List Nat), w.heap.size ≤ D → D ∉ Y → Left B Y0 w W Y → Ix c W Y → W.heap[D]? = some (.deferred (some [])) → c.wpIn Fence.wide 0 Try.prog Q { a with defers := { target := .collected D, args := #[] } :: a.defers } W) :
    (Code.rangeFunc g ps assign body).wpIn Fence.wide 0 Try.prog Q a w := by
  refine wpIn_rangeFunc fun fn hfn => ?_
  obtain ⟨rec, hrec⟩ : ∃ rec : LoopState → Option Code → Loop, rec = fun st pe => { state := st, pending := pe, fn, tmps := a.tmps, params := ps, assign, body, defers := w.heap.size } := ⟨_, rfl⟩
  obtain ⟨D, hD⟩ : ∃ D, D = w.heap.size := ⟨_, rfl⟩
  obtain ⟨W1, hW1⟩ : ∃ W1, (w.alloc (.deferred (some []))).alloc (.loop (rec .ready none)) = W1 := ⟨_, rfl⟩
  have b1 : Below w.heap.size w W1 := by
    rw [← hW1]; exact ((Below.refl _ w).alloc (Nat.le_refl _) _).alloc (by simp) _
  have s1 : W1.heap.size = D + 2 := by rw [← hW1, hD]; simp
  have l1 : W1.heap[D + 1]? = some (.loop (rec .ready none)) := by
    rw [← hW1, hD]
    have := World.alloc_heap_new (w.alloc (.deferred (some []))) (.loop (rec .ready none))
    rwa [World.size_alloc] at this
  have k1 : W1.heap[D]? = some (.deferred (some [])) := by
    rw [← hW1, hD]
    exact (Below.heap_alloc _ _ _ (by simp)).trans (World.alloc_heap_new w _)
  have i1 : I 0 W1 Y0 := hI 0 w W1 Y0 [] h0 (Touch.ofBelow b1) (by simp)
  have hBD : ∀ q ∈ B, q < D := fun q hq => hD ▸ hB q hq
  have hYD : ∀ q ∈ Y0, q < D := fun q hq => hD ▸ hY0 q hq
  -- what the caller's world is between two rounds, with the loop's own two blocks
  obtain ⟨T, hT⟩ : ∃ T : LoopState → Option Code → World → Prop, T = fun st pe W => W.heap[D + 1]? = some (.loop (rec st pe)) ∧ W.heap[D]? = some (.deferred (some [])) := ⟨_, rfl⟩
  have hTa : ∀ {st pe W W' G}, T st pe W → Touch G W W' → D ∉ G → D + 1 ∉ G → T st pe W' := by
    intro st pe W W' G h t n1 n2
    rw [hT] at h ⊢
    exact ⟨(t.block _ (Array.getElem?_eq_some_iff.1 h.1).1 n2).trans h.1, (t.block _ (Array.getElem?_eq_some_iff.1 h.2).1 n1).trans h.2⟩
  have hWay := hw W1 b1 (D + 1)
    (fun n W Y => ∃ Y1, Y = D :: (D + 1) :: Y1 ∧ D ∉ Y1 ∧ D + 1 ∉ Y1 ∧ I n W Y1 ∧ T .ready none W)
    (fun W Y => ∃ Y1 c, Y = D :: (D + 1) :: Y1 ∧ D ∉ Y1 ∧ D + 1 ∉ Y1 ∧ Ix c W Y1 ∧ T .done (some c) W)
    (D :: (D + 1) :: Y0) (by
      intro q hq
      rw [s1]
      simp at hq
      rcases hq with h | h | h
      · omega
      · omega
      · have := hYD q h; omega)
    ⟨Y0, rfl, fun h => by have := hYD _ h; omega, fun h => by have := hYD _ h; omega, i1, by rw [hT]; exact ⟨l1, k1⟩⟩
    (fun n W W' Y G ⟨Y1, e, n1, n2, h1, h2⟩ t hn => by
      subst e
      exact ⟨Y1, rfl, n1, n2, hI n W W' Y1 G h1 t (fun q hq => hn q (by simp [hq])), hTa h2 t (hn D (by simp)) (hn (D + 1) (by simp))⟩)
    (fun W W' Y G ⟨Y1, c, e, n1, n2, h1, h2⟩ t hn => by
      subst e
      exact ⟨Y1, c, rfl, n1, n2, hIx c W W' Y1 G h1 t (fun q hq => hn q (by simp [hq])), hTa h2 t (hn D (by simp)) (hn (D + 1) (by simp))⟩)
    (by
      -- one round
      rintro n x W Y hx ⟨Y1, rfl, n1, n2, hi, ht⟩ hY
      have ht0 := ht
      rw [hT] at ht
      obtain ⟨hl, hk⟩ := ht
      have hlt : D + 1 < W.heap.size := (Array.getElem?_eq_some_iff.1 hl).1
      have hy := run_yield (P := Try.prog) (args := enc x) hl (by rw [hrec]; exact hps x)
      rw [hrec] at hy
      refine ⟨fn, _, assign, body, hy, roundIn_of_wpIn hfn (hassign _ n x W _ hx (fun a1 W1 hb1 hax => ?_))⟩
      have hl1 : W1.heap[D + 1]? = some (.loop (rec .ready none)) := (hb1.block _ hlt).trans hl
      refine ⟨_, run_beginRound hl1 (by rw [hrec]), ?_⟩
      have hlt1 : D + 1 < W1.heap.size := Nat.lt_of_lt_of_le hlt hb1.size
      obtain ⟨V, hV⟩ : ∃ V, V = W1.putObj (D + 1) (.loop { rec .ready none with state := .busy }) := ⟨_, rfl⟩
      have hax2 : Ax n W x a1 V := by rw [hV]; exact hAx n W x a1 W1 _ [D + 1] hax ((Touch.refl _ _).put (.inl (by simp)) _) (by simp; omega)
      have t2 : Touch [D + 1] W V := by rw [hV]; exact (Touch.ofBelow hb1).put (.inl (by simp)) _
      have sV : W.heap.size ≤ V.heap.size := t2.size
      have l2 : V.heap[D + 1]? = some (.loop { rec .ready none with state := .busy }) := by rw [hV]; exact World.putObj_heap_same hlt1
      have k2 : V.heap[D]? = some (.deferred (some [])) := by rw [hV]; exact (World.putObj_heap_other (by omega)).trans ((hb1.block _ (by omega)).trans hk)
      have i2 : I n V Y1 := hI n W V Y1 _ hi t2 (fun q hq e => by simp at e; exact n2 (e ▸ hq))
      rw [← hV]
      have y2 : ∀ q ∈ Y1, q < W.heap.size := fun q hq => hY q (by simp [hq])
      refine wpIn_mono (hbody _ n x W V a1 Y1 (by omega) sV hx i2 y2 hax2) ?_
      have fin : ∀ (jump : Option Code) (W3 : World) (Y3 : List Nat), Left B Y1 V W3 Y3 →
          (Instr.endRound (D + 1) jump).run Try.prog W3 = .ok (.bool jump.isNone) (W3.putObj (D + 1) (.loop (rec (if jump.isNone then .ready else .done) jump))) ∧
          Touch [D + 1] W3 (W3.putObj (D + 1) (.loop (rec (if jump.isNone then .ready else .done) jump))) ∧ D ∉ Y3 ∧ D + 1 ∉ Y3 ∧
          T (if jump.isNone then .ready else .done) jump (W3.putObj (D + 1) (.loop (rec (if jump.isNone then .ready else .done) jump))) ∧
          Left B (D :: (D + 1) :: Y1) W (W3.putObj (D + 1) (.loop (rec (if jump.isNone then .ready else .done) jump))) (D :: (D + 1) :: Y3) := by
        intro jump W3 Y3 h3
        have hs3 := h3.size
        obtain ⟨⟨G, t3, g3⟩, y3⟩ := h3
        have d1 : D ∉ G := fun h => n1 (g3 _ h).1
        have d2 : D + 1 ∉ G := fun h => n2 (g3 _ h).1
        have l3 : W3.heap[D + 1]? = some (.loop { rec .ready none with state := .busy }) := (t3.block _ (by omega) d2).trans l2
        have k3 : W3.heap[D]? = some (.deferred (some [])) := (t3.block _ (by omega) d1).trans k2
        have e1 : D ∉ Y3 := fun h => by
          rcases (y3 _ h).2 with z | z
          · exact n1 z
          · omega
        have e2 : D + 1 ∉ Y3 := fun h => by
          rcases (y3 _ h).2 with z | z
          · exact n2 z
          · omega
        have hr := run_endRound (P := Try.prog) jump l3
        rw [hrec] at hr ⊢
        refine ⟨hr, (Touch.refl _ _).put (.inl (by simp)) _, e1, e2, by rw [hT, hrec]; exact ⟨World.putObj_heap_same (by omega), (World.putObj_heap_other (by omega)).trans k3⟩, ⟨(D + 1) :: G, ?_, ?_⟩, ?_⟩
        · exact ((t2.mono (G := (D + 1) :: G) (fun x hx => by simp at hx; simp [hx])).trans t3 (fun x hx => .inl (by simp [hx]))).put (.inl (by simp)) _
        · intro q hq
          rcases List.mem_cons.1 hq with rfl | z
          · exact ⟨by simp, fun hb => by have := hBD _ hb; omega⟩
          · exact ⟨by simp [(g3 q z).1], (g3 q z).2⟩
        · intro q hq
          simp only [World.putObj_size]
          simp at hq
          rcases hq with rfl | rfl | z
          · exact ⟨by omega, .inl (by simp)⟩
          · exact ⟨by omega, .inl (by simp)⟩
          · obtain ⟨z1, z2⟩ := y3 q z
            exact ⟨z1, z2.imp (fun z => by simp [z]) (fun z => by omega)⟩
      rintro e a3 W3 hp
      cases e with
      | normal =>
        obtain ⟨Y3, h3, i3⟩ := hp
        obtain ⟨f1, f2, f3, f4, f5, f6⟩ := fin none W3 Y3 h3
        exact ⟨_, _, f1, _, f6, .inl ⟨rfl, Y3, rfl, f3, f4, hI _ _ _ _ _ i3 f2 (fun q hq e => by simp at e; exact f4 (e ▸ hq)), f5⟩⟩
      | ret =>
        obtain ⟨Y3, h3, i3⟩ := hp
        obtain ⟨f1, f2, f3, f4, f5, f6⟩ := fin (some .ret) W3 Y3 h3
        exact ⟨_, _, f1, _, f6, .inr ⟨rfl, Y3, _, rfl, f3, f4, hIx _ _ _ _ _ i3 f2 (fun q hq e => by simp at e; exact f4 (e ▸ hq)), f5⟩⟩
      | exit id =>
        obtain ⟨Y3, h3, i3⟩ := hp
        obtain ⟨f1, f2, f3, f4, f5, f6⟩ := fin (some (.exit id)) W3 Y3 h3
        exact ⟨_, _, f1, _, f6, .inr ⟨rfl, Y3, _, rfl, f3, f4, hIx _ _ _ _ _ i3 f2 (fun q hq e => by simp at e; exact f4 (e ▸ hq)), f5⟩⟩
      | goto t =>
        obtain ⟨Y3, h3, i3⟩ := hp
        obtain ⟨f1, f2, f3, f4, f5, f6⟩ := fin (some (.goto t)) W3 Y3 h3
        exact ⟨_, _, f1, _, f6, .inr ⟨rfl, Y3, _, rfl, f3, f4, hIx _ _ _ _ _ i3 f2 (fun q hq e => by simp at e; exact f4 (e ▸ hq)), f5⟩⟩
      | panic ch => exact hp.elim
      | outgrown => exact hp.elim)
  refine ⟨D + 1, [{ target := .collected D, args := #[] }], W1, { target := .fn (.func gf) lb, args := #[.func (.yield (D + 1)) #[] #[]] }, W1, gf, #[.func (.yield (D + 1)) #[] #[]] ++ lb, W1, ?_, ?_, fun _ _ => trivial, ?_, (fun h => by simp [Fence.wide] at h), ?_⟩
  · rw [← hW1, hrec, hD]
    exact run_enterLoop_outer _ _ _ _ _
  · simp only [resolve, hg]
    simp [go_sem]
  · simp [invoke, go_sem, eg]
  · refine (callsIn_wide.2 hWay).mono ?_
    have back : ∀ {W2 Y1 o}, Left B (D :: (D + 1) :: Y0) W1 W2 (D :: (D + 1) :: Y1) → D ∉ Y1 → D + 1 ∉ Y1 → Touch [D + 1] W2 (W2.putObj (D + 1) o) ∧ Left B Y0 w (W2.putObj (D + 1) o) Y1 := by
      intro W2 Y1 o h n1 n2
      have hs := h.size
      obtain ⟨⟨G, t, hG⟩, hY⟩ := h
      refine ⟨(Touch.refl _ _).put (.inl (by simp)) _, ⟨G.filter (fun q => decide (q < D)), ?_, ?_⟩, ?_⟩
      · have z : Touch (G.filter (fun q => decide (q < D))) w W2 := (Touch.ofBelow b1).trans t (fun x hx => by
          by_cases z : x < D
          · exact .inl (List.mem_filter.2 ⟨hx, by simpa using z⟩)
          · exact .inr (by omega))
        exact z.put (.inr (by omega)) _
      · intro q hq
        obtain ⟨z1, z2⟩ := List.mem_filter.1 hq
        have z2 := of_decide_eq_true z2
        obtain ⟨y1, y2⟩ := hG q z1
        simp at y1
        rcases y1 with y | y | y
        · omega
        · omega
        · exact ⟨y, y2⟩
      · intro q hq
        obtain ⟨z1, z2⟩ := hY q (by simp [hq])
        refine ⟨by simpa using z1, ?_⟩
        rcases z2 with z | z
        · simp at z
          rcases z with rfl | rfl | z
          · exact absurd hq n1
          · exact absurd hq n2
          · exact .inl z
        · exact .inr (by omega)
    rintro e W2 ⟨rfl, Y, hL, (⟨Y1, rfl, n1, n2, hi, ht⟩ | ⟨Y1, c, rfl, n1, n2, hi, ht⟩)⟩
    · rw [hT] at ht
      obtain ⟨b2, b3⟩ := back (o := .loop { rec .ready none with state := .exhausted }) hL n1 n2
      have h9 := run_endLoop (P := Try.prog) ht.1 (by rw [hrec]; simp)
      refine ⟨none, _, by rw [hrec] at h9; exact h9, ?_⟩
      rw [hrec] at b2 b3
      exact hdone D _ Y1 (by omega) n1 b3 (hI _ _ _ _ _ hi b2 (fun q hq e => by simp at e; exact n2 (e ▸ hq))) ((World.putObj_heap_other (by omega)).trans ht.2)
    · rw [hT] at ht
      obtain ⟨b2, b3⟩ := back (o := .loop { rec .done (some c) with state := .exhausted }) hL n1 n2
      have h9 := run_endLoop (P := Try.prog) ht.1 (by rw [hrec]; simp)
      refine ⟨some c, _, by rw [hrec] at h9; exact h9, ?_⟩
      rw [hrec] at b2 b3
      exact hstop D c _ Y1 (by omega) n1 b3 (hIx _ _ _ _ _ hi b2 (fun q hq e => by simp at e; exact n2 (e ▸ hq))) ((World.putObj_heap_other (by omega)).trans ht.2)
end Go.Proofs.Ytompbhkmaalioaa
