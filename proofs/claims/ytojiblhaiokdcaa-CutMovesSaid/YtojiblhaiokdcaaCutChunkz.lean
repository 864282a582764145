/-
  A way through elements of any kind, as a range over it sees it (WayY; enc: what the round is handed); the range (wp_seq): as wp_ways has it for items.
  slices.Chunk as a way through the pieces of a list; cut.Chunks: each piece in memory of its own.
-/
import Derived.Test.YtojiblhaiokdcaaRounds
import Derived.Test.YtojiblhaiokdcaaCutPagez
import Derived.Test.YtojiblhaiokdcaaShelfRef
namespace Go.Proofs.Ytojiblhaiokdcaa
open Go.RowKit

/-- the function i, with what it has captured, goes through xs: the round is gone with each of them in turn, till it says no -/
def WayY {α : Type} (i : Nat) (lb : Array Value) (enc : α → Array Value) (xs : List α) (B : List Nat) (W : World) : Prop :=
  ∀ (l : Nat) (J : Nat → World → List Nat → Prop) (Q : World → List Nat → Prop) (Y0 : List Nat), (∀ q ∈ Y0, q < W.heap.size) → J 0 W Y0 → (∀ n, Abid (J n)) → Abid Q →
    (∀ n x w Y, xs[n]? = some x → J n w Y → (∀ q ∈ Y, q < w.heap.size) → YieldAt Fence.wide 0 Try.prog l (enc x) w fun e w' =>
      ∃ Y', Left B Y w w' Y' ∧ ((e = .returned (.bool true) ∧ J (n + 1) w' Y') ∨ (e = .returned (.bool false) ∧ Q w' Y'))) →
    Calls Try.prog i (#[.func (.yield l) #[] #[]] ++ lb) W fun e w' => e = .returned (.tuple #[]) ∧ ∃ Y, Left B Y0 W w' Y ∧ (J xs.length w' Y ∨ Q w' Y)

/-- a range over it, whose own loop stands in no other's body -/
theorem wp_seq {g : Operand} {ps : Array Tmp} {assign body : Code} {Q : Exit → Act → World → Prop} {a : Act} {w : World} {gf : Nat} {lb : Array Value}
    (hg : a.eval g = .func (.func gf) #[] lb) (eg : ∀ args w, (callFunc gf args).run Try.prog w = .ok (.enter gf args) w) {α : Type} {enc : α → Array Value} {xs : List α} {B : List Nat}
    (hw : ∀ W, Below w.heap.size w W → WayY gf lb enc xs B W) (hB : ∀ q ∈ B, q < w.heap.size) (hps : ∀ x, (enc x).size = ps.size)
    (I : Nat → World → List Nat → Prop) (Ix : Code → World → List Nat → Prop) (Y0 : List Nat) (hY0 : ∀ q ∈ Y0, q < w.heap.size) (h0 : I 0 w Y0) (hI : ∀ n, Abid (I n)) (hIx : ∀ c, Abid (Ix c)) (a₁ : α → Act)
    (hassign : ∀ (l : Nat) (x : α) (W : World) (K : Act → World → Prop), K (a₁ x) W →
      assign.wpIn (Fence.wide.inRound l) 0 Try.prog (Exit.then K (fun _ _ _ => False)) { tmps := (ps.zip (enc x)).foldl (fun t (p, v) => t.setIfInBounds p v) a.tmps, defers := [] } W)
    (hbody : ∀ (l n : Nat) (x : α) (W : World) (Y : List Nat), w.heap.size ≤ W.heap.size → xs[n]? = some x → I n W Y → (∀ q ∈ Y, q < W.heap.size) → body.wpIn (Fence.wide.inRound l) 0 Try.prog (leftPost B Y W (I (n + 1)) Ix) (a₁ x) W)
    (hdone : ∀ (D : Nat) (W : World) (Y : List Nat), w.heap.size ≤ D → D ∉ Y → Left B Y0 w W Y → I xs.length W Y → W.heap[D]? = some (.deferred (some [])) → Q .normal { a with defers := { target := .collected D, args := #[] } :: a.defers } W)
    (hstop : ∀ (D : Nat) (c : Code) (W : World) (Y : List Nat), w.heap.size ≤ D → D ∉ Y → Left B Y0 w W Y → Ix c W Y → W.heap[D]? = some (.deferred (some [])) → c.wpIn Fence.wide 0 Try.prog Q { a with defers := { target := .collected D, args := #[] } :: a.defers } W) :
    (Code.rangeFunc g ps assign body).wpIn Fence.wide 0 Try.prog Q a w := by
  refine wpIn_rangeFunc fun fn hfn => ?_
  obtain ⟨rec, hrec⟩ : ∃ rec : LoopState → Option Code → Loop, rec = fun st pe => { state := st, pending := pe, fn, tmps := a.tmps, params := ps, assign, body, defers := w.heap.size } := ⟨_, rfl⟩
  obtain ⟨D, hD⟩ : ∃ D, D = w.heap.size := ⟨_, rfl⟩
  obtain ⟨W1, hW1⟩ : ∃ W1, (w.alloc (.deferred (some []))).alloc (.loop (rec .ready none)) = W1 := ⟨_, rfl⟩
  have b1 : Below w.heap.size w W1 := by
    rw [← hW1]; exact ((Below.refl _ w).alloc (Nat.le_refl _) _).alloc (by simp) _
  have s1 : W1.heap.size = D + 2 := by rw [← hW1, hD]; simp
  have l1 : W1.heap[D + 1]? = some (.loop (rec .ready none)) := by
    rw [← hW1, hD]
    have := World.alloc_heap_new (w.alloc (.deferred (some []))) (.loop (rec .ready none))
    rwa [World.size_alloc] at this
  have k1 : W1.heap[D]? = some (.deferred (some [])) := by
    rw [← hW1, hD]
    exact (Below.heap_alloc _ _ _ (by simp)).trans (World.alloc_heap_new w _)
  have i1 : I 0 W1 Y0 := hI 0 w W1 Y0 [] h0 (Touch.ofBelow b1) (by simp)
  have hBD : ∀ q ∈ B, q < D := fun q hq => hD ▸ hB q hq
  have hYD : ∀ q ∈ Y0, q < D := fun q hq => hD ▸ hY0 q hq
  -- what the caller's world is between two rounds, with the loop's own two blocks
  obtain ⟨T, hT⟩ : ∃ T : LoopState → Option Code → World → Prop, T = fun st pe W => W.heap[D + 1]? = some (.loop (rec st pe)) ∧ W.heap[D]? = some (.deferred (some [])) := ⟨_, rfl⟩
  have hTa : ∀ {st pe W W' G}, T st pe W → Touch G W W' → D ∉ G → D + 1 ∉ G → T st pe W' := by
    intro st pe W W' G h t n1 n2
    rw [hT] at h ⊢
    exact ⟨(t.block _ (Array.getElem?_eq_some_iff.1 h.1).1 n2).trans h.1, (t.block _ (Array.getElem?_eq_some_iff.1 h.2).1 n1).trans h.2⟩
  have hWay := hw W1 b1 (D + 1)
    (fun n W Y => ∃ Y1, Y = D :: (D + 1) :: Y1 ∧ D ∉ Y1 ∧ D + 1 ∉ Y1 ∧ I n W Y1 ∧ T .ready none W)
    (fun W Y => ∃ Y1 c, Y = D :: (D + 1) :: Y1 ∧ D ∉ Y1 ∧ D + 1 ∉ Y1 ∧ Ix c W Y1 ∧ T .done (some c) W)
    (D :: (D + 1) :: Y0) (by
      intro q hq
      rw [s1]
      simp at hq
      rcases hq with h | h | h
      · omega
      · omega
      · have := hYD q h; omega)
    ⟨Y0, rfl, fun h => by have := hYD _ h; omega, fun h => by have := hYD _ h; omega, i1, by rw [hT]; exact ⟨l1, k1⟩⟩
    (fun n W W' Y G ⟨Y1, e, n1, n2, h1, h2⟩ t hn => by
      subst e
      exact ⟨Y1, rfl, n1, n2, hI n W W' Y1 G h1 t (fun q hq => hn q (by simp [hq])), hTa h2 t (hn D (by simp)) (hn (D + 1) (by simp))⟩)
    (fun W W' Y G ⟨Y1, c, e, n1, n2, h1, h2⟩ t hn => by
      subst e
      exact ⟨Y1, c, rfl, n1, n2, hIx c W W' Y1 G h1 t (fun q hq => hn q (by simp [hq])), hTa h2 t (hn D (by simp)) (hn (D + 1) (by simp))⟩)
    (by
      -- one round
      rintro n x W Y hx ⟨Y1, rfl, n1, n2, hi, ht⟩ hY
      have ht0 := ht
      rw [hT] at ht
      obtain ⟨hl, hk⟩ := ht
      have hlt : D + 1 < W.heap.size := (Array.getElem?_eq_some_iff.1 hl).1
      have hy := run_yield (P := Try.prog) (args := enc x) hl (by rw [hrec]; exact hps x)
      rw [hrec] at hy
      refine ⟨fn, _, assign, body, hy, roundIn_of_wpIn hfn (hassign _ x W _ ⟨_, run_beginRound hl (by rw [hrec]), ?_⟩)⟩
      obtain ⟨V, hV⟩ : ∃ V, V = W.putObj (D + 1) (.loop { rec .ready none with state := .busy }) := ⟨_, rfl⟩
      have t2 : Touch [D + 1] W V := by rw [hV]; exact (Touch.refl _ _).put (.inl (by simp)) _
      have sV : V.heap.size = W.heap.size := by rw [hV]; simp
      have l2 : V.heap[D + 1]? = some (.loop { rec .ready none with state := .busy }) := by rw [hV]; exact World.putObj_heap_same hlt
      have k2 : V.heap[D]? = some (.deferred (some [])) := by rw [hV]; exact (World.putObj_heap_other (by omega)).trans hk
      have i2 : I n V Y1 := hI n W V Y1 _ hi t2 (fun q hq e => by simp at e; exact n2 (e ▸ hq))
      rw [← hV]
      have y2 : ∀ q ∈ Y1, q < V.heap.size := fun q hq => by rw [sV]; exact hY q (by simp [hq])
      refine wpIn_mono (hbody _ n x V Y1 (by rw [sV]; omega) hx i2 y2) ?_
      have fin : ∀ (jump : Option Code) (W3 : World) (Y3 : List Nat), Left B Y1 V W3 Y3 →
          (Instr.endRound (D + 1) jump).run Try.prog W3 = .ok (.bool jump.isNone) (W3.putObj (D + 1) (.loop (rec (if jump.isNone then .ready else .done) jump))) ∧
          Touch [D + 1] W3 (W3.putObj (D + 1) (.loop (rec (if jump.isNone then .ready else .done) jump))) ∧ D ∉ Y3 ∧ D + 1 ∉ Y3 ∧
          T (if jump.isNone then .ready else .done) jump (W3.putObj (D + 1) (.loop (rec (if jump.isNone then .ready else .done) jump))) ∧
          Left B (D :: (D + 1) :: Y1) W (W3.putObj (D + 1) (.loop (rec (if jump.isNone then .ready else .done) jump))) (D :: (D + 1) :: Y3) := by
        intro jump W3 Y3 h3
        have hs3 := h3.size
        obtain ⟨⟨G, t3, g3⟩, y3⟩ := h3
        have d1 : D ∉ G := fun h => n1 (g3 _ h).1
        have d2 : D + 1 ∉ G := fun h => n2 (g3 _ h).1
        have l3 : W3.heap[D + 1]? = some (.loop { rec .ready none with state := .busy }) := (t3.block _ (by omega) d2).trans l2
        have k3 : W3.heap[D]? = some (.deferred (some [])) := (t3.block _ (by omega) d1).trans k2
        have e1 : D ∉ Y3 := fun h => by
          rcases (y3 _ h).2 with z | z
          · exact n1 z
          · omega
        have e2 : D + 1 ∉ Y3 := fun h => by
          rcases (y3 _ h).2 with z | z
          · exact n2 z
          · omega
        have hr := run_endRound (P := Try.prog) jump l3
        rw [hrec] at hr ⊢
        refine ⟨hr, (Touch.refl _ _).put (.inl (by simp)) _, e1, e2, by rw [hT, hrec]; exact ⟨World.putObj_heap_same (by omega), (World.putObj_heap_other (by omega)).trans k3⟩, ⟨(D + 1) :: G, ?_, ?_⟩, ?_⟩
        · exact ((t2.mono (G := (D + 1) :: G) (fun x hx => by simp at hx; simp [hx])).trans t3 (fun x hx => .inl (by simp [hx]))).put (.inl (by simp)) _
        · intro q hq
          rcases List.mem_cons.1 hq with rfl | z
          · exact ⟨by simp, fun hb => by have := hBD _ hb; omega⟩
          · exact ⟨by simp [(g3 q z).1], (g3 q z).2⟩
        · intro q hq
          simp only [World.putObj_size]
          simp at hq
          rcases hq with rfl | rfl | z
          · exact ⟨by omega, .inl (by simp)⟩
          · exact ⟨by omega, .inl (by simp)⟩
          · obtain ⟨z1, z2⟩ := y3 q z
            exact ⟨z1, z2.imp (fun z => by simp [z]) (fun z => by omega)⟩
      rintro e a3 W3 hp
      cases e with
      | normal =>
        obtain ⟨Y3, h3, i3⟩ := hp
        obtain ⟨f1, f2, f3, f4, f5, f6⟩ := fin none W3 Y3 h3
        exact ⟨_, _, f1, _, f6, .inl ⟨rfl, Y3, rfl, f3, f4, hI _ _ _ _ _ i3 f2 (fun q hq e => by simp at e; exact f4 (e ▸ hq)), f5⟩⟩
      | ret =>
        obtain ⟨Y3, h3, i3⟩ := hp
        obtain ⟨f1, f2, f3, f4, f5, f6⟩ := fin (some .ret) W3 Y3 h3
        exact ⟨_, _, f1, _, f6, .inr ⟨rfl, Y3, _, rfl, f3, f4, hIx _ _ _ _ _ i3 f2 (fun q hq e => by simp at e; exact f4 (e ▸ hq)), f5⟩⟩
      | exit id =>
        obtain ⟨Y3, h3, i3⟩ := hp
        obtain ⟨f1, f2, f3, f4, f5, f6⟩ := fin (some (.exit id)) W3 Y3 h3
        exact ⟨_, _, f1, _, f6, .inr ⟨rfl, Y3, _, rfl, f3, f4, hIx _ _ _ _ _ i3 f2 (fun q hq e => by simp at e; exact f4 (e ▸ hq)), f5⟩⟩
      | goto t =>
        obtain ⟨Y3, h3, i3⟩ := hp
        obtain ⟨f1, f2, f3, f4, f5, f6⟩ := fin (some (.goto t)) W3 Y3 h3
        exact ⟨_, _, f1, _, f6, .inr ⟨rfl, Y3, _, rfl, f3, f4, hIx _ _ _ _ _ i3 f2 (fun q hq e => by simp at e; exact f4 (e ▸ hq)), f5⟩⟩
      | panic ch => exact hp.elim
      | outgrown => exact hp.elim)
  refine ⟨D + 1, [{ target := .collected D, args := #[] }], W1, { target := .fn (.func gf) lb, args := #[.func (.yield (D + 1)) #[] #[]] }, W1, gf, #[.func (.yield (D + 1)) #[] #[]] ++ lb, W1, ?_, ?_, fun _ _ => trivial, ?_, (fun h => by simp [Fence.wide] at h), ?_⟩
  · rw [← hW1, hrec, hD]
    exact run_enterLoop_outer _ _ _ _ _
  · simp only [resolve, hg]
    simp [go_sem]
  · simp [invoke, go_sem, eg]
  · refine (callsIn_wide.2 hWay).mono ?_
    have back : ∀ {W2 Y1 o}, Left B (D :: (D + 1) :: Y0) W1 W2 (D :: (D + 1) :: Y1) → D ∉ Y1 → D + 1 ∉ Y1 → Touch [D + 1] W2 (W2.putObj (D + 1) o) ∧ Left B Y0 w (W2.putObj (D + 1) o) Y1 := by
      intro W2 Y1 o h n1 n2
      have hs := h.size
      obtain ⟨⟨G, t, hG⟩, hY⟩ := h
      refine ⟨(Touch.refl _ _).put (.inl (by simp)) _, ⟨G.filter (fun q => decide (q < D)), ?_, ?_⟩, ?_⟩
      · have z : Touch (G.filter (fun q => decide (q < D))) w W2 := (Touch.ofBelow b1).trans t (fun x hx => by
          by_cases z : x < D
          · exact .inl (List.mem_filter.2 ⟨hx, by simpa using z⟩)
          · exact .inr (by omega))
        exact z.put (.inr (by omega)) _
      · intro q hq
        obtain ⟨z1, z2⟩ := List.mem_filter.1 hq
        have z2 := of_decide_eq_true z2
        obtain ⟨y1, y2⟩ := hG q z1
        simp at y1
        rcases y1 with y | y | y
        · omega
        · omega
        · exact ⟨y, y2⟩
      · intro q hq
        obtain ⟨z1, z2⟩ := hY q (by simp [hq])
        refine ⟨by simpa using z1, ?_⟩
        rcases z2 with z | z
        · simp at z
          rcases z with rfl | rfl | z
          · exact absurd hq n1
          · exact absurd hq n2
          · exact .inl z
        · exact .inr (by omega)
    rintro e W2 ⟨rfl, Y, hL, (⟨Y1, rfl, n1, n2, hi, ht⟩ | ⟨Y1, c, rfl, n1, n2, hi, ht⟩)⟩
    · rw [hT] at ht
      obtain ⟨b2, b3⟩ := back (o := .loop { rec .ready none with state := .exhausted }) hL n1 n2
      have h9 := run_endLoop (P := Try.prog) ht.1 (by rw [hrec]; simp)
      refine ⟨none, _, by rw [hrec] at h9; exact h9, ?_⟩
      rw [hrec] at b2 b3
      exact hdone D _ Y1 (by omega) n1 b3 (hI _ _ _ _ _ hi b2 (fun q hq e => by simp at e; exact n2 (e ▸ hq))) ((World.putObj_heap_other (by omega)).trans ht.2)
    · rw [hT] at ht
      obtain ⟨b2, b3⟩ := back (o := .loop { rec .done (some c) with state := .exhausted }) hL n1 n2
      have h9 := run_endLoop (P := Try.prog) ht.1 (by rw [hrec]; simp)
      refine ⟨some c, _, by rw [hrec] at h9; exact h9, ?_⟩
      rw [hrec] at b2 b3
      exact hstop D c _ Y1 (by omega) n1 b3 (hIx _ _ _ _ _ hi b2 (fun q hq e => by simp at e; exact n2 (e ▸ hq))) ((World.putObj_heap_other (by omega)).trans ht.2)
end Go.Proofs.Ytojiblhaiokdcaa
namespace Go.Proofs.Ytojiblhaiokdcaa
open Go.RowKit

attribute [local go_sem] Oper.semAt_some

/-- append as one step of a region that draws, within a round -/
theorem stepIn_append_any {F : Fence} {d : Nat} {P : Program} {w : World} {ops : Array Oper} {o : Oper} {a : Act} {K : Act → World → Prop} {Q : Exit → Act → World → Prop} {E : Prop} (hg : o.guard = none) (s x : Operand) (t : TypeId)
    (ho : o.op = .call { callee := .builtin .append, args := #[s, x], argTypes := #[t, t] })
    (base : Nat) (e : TypeId) (i : TypeInfo) (z : Value) (size bytes : Nat) (ht : P.underlying t = some (.slice e)) (hi : P.info? e = some i) (hz : i.zero = some z)
    (hsize : i.size = size) (hby : i.bytes = bytes) (hzs : z.cells.size = size) (hsz : 0 < size)
    (v : Value) (n : Nat) (xs : List Value) (hs : a.eval s = v) (hown : w.ownsRow base e size v n xs)
    (y : Value) (m : Nat) (news : List Value) (hx : a.eval x = y) (hsrc : From w size y m news) (h1 : ∀ u ∈ news, u.oneCell' = true)
    (h63 : n + m ≤ maxLen) (hbytes : (n + m) * bytes ≤ 140737488355328) (hbase : base ≤ w.heap.size)
    (h : ∀ A c w', w'.ownsRow base e size (.slice A (n + m) c) (n + m) (xs ++ news) → w.grownBy w' v.ownBlock → SameOrNew w v (.slice A (n + m) c) → K (a.put o.dst (.slice A (n + m) c)) w') :
    if Region.wanted o (yielded ops a.tmps) = true then Oper.wpIn F d P o a w K Q else E := by
  rw [if_pos (by simp [Region.wanted, hg])]
  obtain ⟨v', w', hr, h2, h3, h4⟩ := run_append_any (P := P) w base t o.type e i z size bytes ht hi hz hsize hby hzs hsz v n xs hown y m news hsrc h1 h63 hbytes hbase
  obtain ⟨A, c, rfl⟩ := own_slice h2
  refine ⟨by simp [Oper.about, ho, resolve, Target.leads, Sem.run_pure], ?_⟩
  rw [Oper.semAt_plain F _ _ (by rw [ho]; intro c hc; cases hc)]
  simp only [execOp, ho, resolve, invoke, builtin, Sem.run_bind, Sem.run_pure, Result.andThen_ok, List.map_toArray, List.map_cons, List.map_nil, hs, hx, hr]
  exact h _ _ _ h2 h3 h4
/-- the piece at a place -/
def chV (A : Option Addr) (n j : Nat) : Value := match A with
  | some ⟨b, o, s⟩ => .slice (some ⟨b, o + j * 4 * 2, s⟩) (min 4 (n - j * 4) : Nat) (min 4 (n - j * 4) : Nat)
  | none => .slice none 0 0
def chVs (A : Option Addr) (n : Nat) : List Value := (List.range ((n + 3) / 4)).map (chV A n)
set_option maxRecDepth 100000 in
set_option maxHeartbeats 4000000 in
theorem chunkWay {W : World} {A : Option Addr} {c n : Nat} (hn : n ≤ 4611686018427387904) (hc : n ≤ c) (hA : 1 ≤ n → ∃ b o, A = some ⟨b, o, none⟩) {b1 b2 : Nat} (hc1 : W.cell? ⟨b1, 0, none⟩ = some (.slice A n c)) (hc2 : W.cell? ⟨b2, 0, none⟩ = some (.int .i64 4))
    (B : List Nat) (hB1 : b1 ∈ B) (hB2 : b2 ∈ B) (hBW : ∀ q ∈ B, q < W.heap.size) :
    WayY 55 #[.pointer (some ⟨b1, 0, none⟩), .pointer (some ⟨b2, 0, none⟩)] (fun v => #[v]) (chVs A n) B W := by
  intro l J Q Y0 hY0 h0 hJ hQ hR
  have H0 := Lib.hid h0
  have HJ := Lib.hid hJ
  have HR := Lib.hid hR
  have HY0 := Lib.hid hY0
  have HBW := Lib.hid hBW
  have HA := Lib.hid hA
  clear h0 hJ hR hQ hY0 hBW hA
  have hlen : (chVs A n).length = (n + 3) / 4 := by simp [chVs]
  have HLN := Lib.hid hlen
  clear hlen
  refine (callsIn_wide (n := 0)).1 (callsIn_of_wp Try.func55 rfl trivial ?_ rfl)
  simp only [Try.ntmps55, List.size_toArray, List.length_cons, List.length_nil, Nat.reduceAdd, Nat.reduceSub, Array.replicate_succ, Array.replicate_zero, List.push_toArray, List.append_toArray, List.nil_append, List.cons_append]
  gi_wp2
  gi_loopw [4] (fun p wr => ∃ (j : Nat) (Y : List Nat), p = .int .i64 ((j * 4 : Nat) : Int) ∧ j ≤ (n + 3) / 4 ∧ Hid (J j wr Y) ∧ Hid (Left B Y0 W wr Y) ∧ wr.cell? ⟨b1, 0, none⟩ = some (.slice A n c) ∧ wr.cell? ⟨b2, 0, none⟩ = some (.int .i64 4))
    (fun p _ => n + 4 - (intOf p).toNat)
  case atStart => exact ⟨0, Y0, rfl, Nat.zero_le _, H0.out, Left.refl HY0.out, hc1, hc2⟩
  case round =>
    obtain ⟨j, Y, rfl, hj, HJj, HL, d1, d2⟩ := hrel
    by_cases hlt : j * 4 < n
    · obtain ⟨b, o, rfl⟩ := HA.out (by omega)
      have t1 : decide (((j * 4 : Nat) : Int) < (n : Int)) = true := by simp; omega
      have t1' : decide (j * 4 < n) = true := by simp; omega
      obtain ⟨m, hm⟩ : ∃ m, min 4 (n - j * 4) = m := ⟨_, rfl⟩
      have hx : (chVs (some ⟨b, o, none⟩) n)[j]? = some (.slice (some ⟨b, o + j * 4 * 2, none⟩) m m) := by
        rw [chVs, List.getElem?_map, List.getElem?_range (by omega)]
        simp only [Option.map_some, chV, hm]
      have hm' : (if ((n - j * 4 : Nat) : Int) < 4 then ((n - j * 4 : Nat) : Int) else 4) = ((m : Nat) : Int) := by
        split <;> omega
      have hYl : ∀ q ∈ Y, q < wr.drew.heap.size := fun q hq => (HL.out.2 q hq).1
      obtain ⟨fn, tmps, assign, body, hy, hr⟩ := HR.out j _ wr.drew Y hx (HJ.out _ _ _ Y [] HJj.out (Touch.refl _ _).drew (by simp)) hYl
      have HRR := Lib.hid hr
      clear hx hr hYl
      have e1 : wr.drew.cell? ⟨b1, 0, none⟩ = some (.slice (some ⟨b, o, none⟩) n c) := d1
      gi_wp2
      gi_region
      have hm4 : m ≤ 4 ∧ j * 4 + m ≤ n := by omega
      have hm0 : ¬ m = 0 := by omega
      clear hm hm'
      have HE1 := Lib.hid e1
      have HE2 : Hid (wr.drew.cell? ⟨b2, 0, none⟩ = some (.int .i64 4)) := d2
      gi_wp2
      refine ⟨rfl, ?_⟩
      refine (RoundIn.deep HRR.out).mono ?_
      rintro e w' ⟨Y', hL', (⟨rfl, hj'⟩ | ⟨rfl, hq⟩)⟩
      · have d1 : w'.cell? ⟨b1, 0, none⟩ = some (.slice (some ⟨b, o, none⟩) n c) := hL'.cellB HE1.out hB1
        have d2 : w'.cell? ⟨b2, 0, none⟩ = some (.int .i64 4) := hL'.cellB HE2.out hB2
        have HL2 : Hid (Left B Y0 W w' Y') := HL.out.trans (Left.after (Below.refl _ wr).drew hL')
        have HJ2 := Lib.hid hj'
        clear hL' hj'
        gi_wp2
        go_roundw
        case rel => exact ⟨j + 1, Y', by congr 1; omega, by omega, HJ2, HL2, d1, d2⟩
        case measure => simp [intOf]; omega
      · have HL2 : Hid (Left B Y0 W w' Y') := HL.out.trans (Left.after (Below.refl _ wr).drew hL')
        have HQ2 := Lib.hid hq
        clear hL' hq
        gi_wp2
        refine bodyPost_ret (results_none rfl _ _ _) rfl ?_
        exact ⟨rfl, Y', HL2.out, .inr HQ2.out⟩
    · have t1 : decide (((j * 4 : Nat) : Int) < (n : Int)) = false := by simp; omega
      have t1' : decide (j * 4 < n) = false := by simp; omega
      obtain rfl : j = (n + 3) / 4 := by omega
      have HE : Hid (J (chVs A n).length wr Y) := by rw [HLN.out]; exact HJj.out
      gi_wp2
      go_end0
      exact ⟨rfl, Y, HL.out, .inl HE.out⟩
/-- the call that makes it -/
theorem chunk_any (A : Option Addr) (n c : Nat) (W : World) : Calls Try.prog 39 #[.slice A n c, .int .i64 4] W fun e w' =>
    e = .returned (.func (.func 55) #[] #[.pointer (some ⟨W.heap.size, 0, none⟩), .pointer (some ⟨W.heap.size + 1, 0, none⟩)]) ∧
    w' = (W.alloc (.cells #[.slice A n c] 22)).alloc (.cells #[.int .i64 4] 3) := by
  go_enter Try.func39, Try.ntmps39
  go_wp2_with fail
  go_ret
  exact ⟨rfl, rfl⟩
/-- the piece at a place -/
def piece (ms : List Item) (j : Nat) : List Item := (ms.drop (j * 4)).take 4
theorem piece_length (ms : List Item) (j : Nat) : (piece ms j).length = min 4 (ms.length - j * 4) := by simp [piece]
/-- lists of items that lie each in a block of its own -/
def Pieces (V : World) (n0 : Nat) (ms : List Item) (vs : List Value) : Prop :=
  ∀ i v, vs[i]? = some v → ∃ A c, v = .slice A (piece ms i).length c ∧ V.ownsRow n0 39 2 v (piece ms i).length (itemCells (piece ms i))
def blocksOf (vs : List Value) : List Nat := vs.flatMap fun v => v.ownBlock.toList
theorem mem_blocksOf {vs : List Value} {q : Nat} : q ∈ blocksOf vs ↔ ∃ v ∈ vs, v.ownBlock = some q := by
  simp [blocksOf]
theorem Pieces.touch {V V1 : World} {n0 : Nat} {ms : List Item} {vs : List Value} {G : List Nat} (h : Pieces V n0 ms vs) (t : Touch G V V1) (hn : ∀ q ∈ blocksOf vs, q ∉ G) : Pieces V1 n0 ms vs := by
  intro i v hv
  obtain ⟨A, c, e, r⟩ := h i v hv
  exact ⟨A, c, e, t.row r (fun q hq => hn q (mem_blocksOf.2 ⟨v, List.mem_of_getElem? hv, hq⟩))⟩
theorem Pieces.lt {V : World} {n0 : Nat} {ms : List Item} {vs : List Value} (h : Pieces V n0 ms vs) : ∀ q ∈ blocksOf vs, n0 ≤ q ∧ q < V.heap.size := by
  intro q hq
  obtain ⟨v, hv, hb⟩ := mem_blocksOf.1 hq
  obtain ⟨i, hi, hv'⟩ := List.getElem_of_mem hv
  obtain ⟨A, c, e, r⟩ := h i v (by rw [List.getElem?_eq_getElem hi, hv'])
  exact r.lt q hb
/-- what Chunks leaves: a list of lists, all of them in blocks of their own -/
def ChunksPost (W : World) (ms : List Item) (e : Ending) (w' : World) : Prop :=
  ∃ A c vs, e = .returned (.slice A ((ms.length + 3) / 4 : Nat) c) ∧ vs.length = (ms.length + 3) / 4 ∧ w'.ownsRow W.heap.size 22 1 (.slice A ((ms.length + 3) / 4 : Nat) c) ((ms.length + 3) / 4) vs ∧
    Pieces w' W.heap.size ms vs ∧ ((Value.slice A ((ms.length + 3) / 4 : Nat) c).ownBlock.toList ++ blocksOf vs).Nodup ∧ Below W.heap.size W w'
theorem cellKeep {W W1 : World} {G : List Nat} {p : Addr} {v : Value} (h : W.cell? p = some v) (t : Touch G W W1) (hn : p.block ∉ G) : W1.cell? p = some v := (t.cell (World.block_lt_of_cell? W _ h) hn).trans h
theorem infoLists : ∃ i, Try.prog.info? 22 = some i ∧ i.zero = some (.slice none 0 0) ∧ i.size = 1 ∧ i.bytes = 24 := by
  have h : (Try.prog.info? 22).map (fun i => (i.zero, i.size, i.bytes)) = some (some (.slice none 0 0), 1, 24) := by kernel_rfl
  obtain ⟨i, hi, hx⟩ := Option.map_eq_some_iff.1 h
  simp only [Prod.mk.injEq] at hx
  exact ⟨i, hi, hx⟩
/-- what the caller knows between two rounds of Chunks -/
def ChI (s n0 b off : Nat) (bs : List Nat) (ms : List Item) (m : Nat) (V : World) (Y : List Nat) : Prop :=
  ∃ A1 c1 vs, Y = s :: (bs ++ ((Value.slice A1 m c1).ownBlock.toList ++ blocksOf vs)) ∧ Var V s (.slice A1 m c1) ∧ vs.length = m ∧ V.ownsRow n0 22 1 (.slice A1 m c1) m vs ∧ Pieces V n0 ms vs ∧ ((Value.slice A1 m c1).ownBlock.toList ++ blocksOf vs).Nodup ∧
    ∀ i (h : i < ms.length), V.cell? ⟨b, off + i * 2, none⟩ = some (.string (ms[i]).1) ∧ V.cell? ⟨b, off + i * 2 + 1, none⟩ = some (.string (ms[i]).2)
theorem cells_of {V : World} {b off : Nat} {ms : List Item} (h : ∀ i (h : i < ms.length), V.cell? ⟨b, off + i * 2, none⟩ = some (.string (ms[i]).1) ∧ V.cell? ⟨b, off + i * 2 + 1, none⟩ = some (.string (ms[i]).2)) (j : Nat) (u : Value) (hj : (itemCells ms)[j]? = some u) : V.cell? ⟨b, off + j, none⟩ = some u := by
  have hlt := (List.getElem?_eq_some_iff.1 hj).1
  rw [itemCells_length] at hlt
  have h2 : j / 2 < ms.length := by omega
  rcases (show j = j / 2 * 2 ∨ j = j / 2 * 2 + 1 by omega) with e | e
  · rw [e, itemCells_get0 ms _ h2] at hj
    rw [e, (h _ h2).1]
    exact hj
  · rw [e, itemCells_get1 ms _ h2] at hj
    rw [e, ← Nat.add_assoc, (h _ h2).2]
    exact hj
theorem piece_cells {V : World} {b off m : Nat} {ms : List Item} (h : ∀ i (h : i < ms.length), V.cell? ⟨b, off + i * 2, none⟩ = some (.string (ms[i]).1) ∧ V.cell? ⟨b, off + i * 2 + 1, none⟩ = some (.string (ms[i]).2)) (j : Nat) (u : Value) (hj : (itemCells (piece ms m))[j]? = some u) : V.drew.cell? ((⟨b, off + m * 4 * 2, none⟩ : Addr).add j) = some u := by
  have e : itemCells (piece ms m) = ((itemCells ms).drop (m * 4 * 2)).take (4 * 2) := by rw [piece, ← itemCells_take, ← itemCells_drop]
  rw [e] at hj
  have hlt := (List.getElem?_eq_some_iff.1 hj).1
  rw [List.length_take] at hlt
  rw [List.getElem?_take_of_lt (by omega), List.getElem?_drop] at hj
  have z := cells_of h _ u hj
  rw [← Nat.add_assoc] at z
  have ea : (⟨b, off + m * 4 * 2, none⟩ : Addr).add j = ⟨b, off + m * 4 * 2 + j, none⟩ := by simp [Addr.add]
  rw [ea]
  exact z
theorem own_keep {V w1 : World} {base e size n : Nat} {v : Value} {xs : List Value} (h : V.ownsRow base e size v n xs) (b : Below V.heap.size V w1) : w1.ownsRow base e size v n xs := (Touch.ofBelow (F := []) b).row h (by simp)
/-- one round of Chunks -/
theorem chunk_round {V w1 w3 : World} {s n0 m k : Nat} {A1 A2 A3 : Option Addr} {c1 d2 c3 : Nat} {vs : List Value} {bs : List Nat} {ms : List Item} {o : Obj}
    (hn : s + 2 < n0) (hb : ∀ q ∈ bs, q < s) (h1 : Var V s (.slice A1 m c1)) (hl : vs.length = m) (h3 : V.ownsRow n0 22 1 (.slice A1 m c1) m vs) (h4 : Pieces V n0 ms vs) (h5 : ((Value.slice A1 m c1).ownBlock.toList ++ blocksOf vs).Nodup) (hsz : n0 ≤ V.heap.size)
    (hp : (piece ms m).length = k) (b1 : Below V.heap.size V w1) (r1 : w1.ownsRow V.heap.size 39 2 (.slice A2 k d2) k (itemCells (piece ms m)))
    (r3 : w3.ownsRow n0 22 1 (.slice A3 (m + 1) c3) (m + 1) (vs ++ [.slice A2 k d2])) (g3 : (w1.alloc o).grownBy w3 (Value.slice A1 m c1).ownBlock) (s3 : SameOrNew (w1.alloc o) (.slice A1 m c1) (.slice A3 (m + 1) c3)) :
    Left ([s + 1, s + 1 + 1] ++ bs) (s :: (bs ++ ((Value.slice A1 m c1).ownBlock.toList ++ blocksOf vs))) V (w3.setCell ⟨s, 0, none⟩ (.slice A3 (m + 1) c3)) (s :: (bs ++ ((Value.slice A3 (m + 1) c3).ownBlock.toList ++ blocksOf (vs ++ [.slice A2 k d2])))) ∧
    Var (w3.setCell ⟨s, 0, none⟩ (.slice A3 (m + 1) c3)) s (.slice A3 (m + 1) c3) ∧ (w3.setCell ⟨s, 0, none⟩ (.slice A3 (m + 1) c3)).ownsRow n0 22 1 (.slice A3 (m + 1) c3) (m + 1) (vs ++ [.slice A2 k d2]) ∧
    Pieces (w3.setCell ⟨s, 0, none⟩ (.slice A3 (m + 1) c3)) n0 ms (vs ++ [.slice A2 k d2]) ∧ ((Value.slice A3 (m + 1) c3).ownBlock.toList ++ blocksOf (vs ++ [.slice A2 k d2])).Nodup ∧ ∀ q ∈ bs, q ∉ s :: (Value.slice A1 m c1).ownBlock.toList := by
  obtain ⟨v1, hv1⟩ : ∃ v, v = Value.slice A1 m c1 := ⟨_, rfl⟩
  obtain ⟨v2, hv2⟩ : ∃ v, v = Value.slice A2 k d2 := ⟨_, rfl⟩
  obtain ⟨v3, hv3⟩ : ∃ v, v = Value.slice A3 (m + 1) c3 := ⟨_, rfl⟩
  rw [← hv1] at h1 h3 h5 g3 s3
  rw [← hv2] at r1 r3
  rw [← hv3] at r3 s3
  rw [← hv1, ← hv2, ← hv3]
  have l1 := h1.lt
  have z1 := b1.size
  have own1 : ∀ q, v1.ownBlock = some q → n0 ≤ q ∧ q < V.heap.size := fun q hq => h3.lt q hq
  have own2 : ∀ q, v2.ownBlock = some q → V.heap.size ≤ q ∧ q < w1.heap.size := fun q hq => r1.lt q hq
  have own3 : ∀ q, v3.ownBlock = some q → n0 ≤ q ∧ q < w3.heap.size := fun q hq => r3.lt q hq
  have old := h4.lt
  have ta : Touch v1.ownBlock.toList V (w1.alloc o) := Touch.ofBelow (b1.alloc b1.size o)
  have tw : Touch v1.ownBlock.toList (w1.alloc o) w3 := (Touch.refl _ _).grown g3 (fun q hq => .inl (by simp [hq]))
  have t3 : Touch v1.ownBlock.toList V w3 := ta.trans tw (fun x hx => .inl hx)
  have zw := tw.size
  have zal : (w1.alloc o).heap.size = w1.heap.size + 1 := by simp
  have t4 : Touch (s :: v1.ownBlock.toList) V (w3.setCell ⟨s, 0, none⟩ v3) := (t3.mono (fun x hx => by simp [hx])).set (.inl (by simp)) _
  have ts : Touch [s] w3 (w3.setCell ⟨s, 0, none⟩ v3) := (Touch.refl _ _).set (.inl (by simp)) _
  have e4 : (w3.setCell ⟨s, 0, none⟩ v3).heap.size = w3.heap.size := by simp [World.setCell]
  have new3 : ∀ q, v3.ownBlock = some q → v1.ownBlock = some q ∨ w1.heap.size < q := fun q hq => by
    rcases s3 q hq with u | u
    · exact .inl u
    · exact .inr (by omega)
  have eb : blocksOf (vs ++ [v2]) = blocksOf vs ++ v2.ownBlock.toList := by simp [blocksOf]
  refine ⟨⟨⟨_, t4, fun q hq => ⟨?_, fun hB => ?_⟩⟩, fun q hq => ?_⟩, (h1.touch t3 (fun y => by have := own1 s (by simpa using y); omega)).set _, ts.row r3 (fun q hq y => by have := own3 q hq; simp at y; omega), ?_, ?_, fun q hq y => ?_⟩
  · rcases List.mem_cons.1 hq with y | y
    · rw [y]; simp
    · exact List.mem_cons_of_mem _ (List.mem_append_right _ (List.mem_append_left _ y))
  · rcases List.mem_cons.1 hq with y | y
    · rcases List.mem_append.1 hB with u | u
      · simp at u; omega
      · have := hb q u; omega
    · have := own1 q (by simpa using y)
      rcases List.mem_append.1 hB with u | u
      · simp at u; omega
      · have := hb q u; omega
  · rw [e4]
    have z3 := t3.size
    rcases List.mem_cons.1 hq with y | y
    · exact ⟨by omega, .inl (by rw [y]; simp)⟩
    · rcases List.mem_append.1 y with y | y
      · exact ⟨by have := hb q y; omega, .inl (List.mem_cons_of_mem _ (List.mem_append_left _ y))⟩
      · rcases List.mem_append.1 y with y | y
        · have y' : v3.ownBlock = some q := by simpa using y
          refine ⟨(own3 q y').2, ?_⟩
          rcases new3 q y' with u | u
          · exact .inl (List.mem_cons_of_mem _ (List.mem_append_right _ (List.mem_append_left _ (by simp [u]))))
          · exact .inr (by omega)
        · rw [eb] at y
          rcases List.mem_append.1 y with y | y
          · exact ⟨by have := old q y; omega, .inl (List.mem_cons_of_mem _ (List.mem_append_right _ (List.mem_append_right _ y)))⟩
          · have := own2 q (by simpa using y)
            exact ⟨by omega, .inr this.1⟩
  · intro i v hv
    rcases Nat.lt_or_ge i m with hi | hi
    · rw [List.getElem?_append_left (by omega)] at hv
      refine (h4.touch t4 (fun q hq y => ?_)) i v hv
      have := old q hq
      rcases List.mem_cons.1 y with u | u
      · omega
      · exact (List.nodup_append.1 h5).2.2 q u q hq rfl
    · have hlt := (List.getElem?_eq_some_iff.1 hv).1
      rw [List.length_append, hl] at hlt
      simp at hlt
      obtain rfl : i = m := by omega
      rw [List.getElem?_append_right (by omega), hl] at hv
      simp at hv
      subst hv
      refine ⟨A2, d2, by rw [hv2, hp], ?_⟩
      rw [hp]
      refine ts.row (tw.row (own_mono (r1.alloc _) (by omega)) (fun q hq y => ?_)) (fun q hq y => ?_)
      · have := own2 q hq
        have := own1 q (by simpa using y)
        omega
      · have := own2 q hq
        simp at y
        omega
  · rw [eb]
    refine List.nodup_append.2 ⟨by cases v3.ownBlock <;> simp, List.nodup_append.2 ⟨(List.nodup_append.1 h5).2.1, by cases v2.ownBlock <;> simp, ?_⟩, ?_⟩
    · rintro a ha b hb' rfl
      have := old a ha
      have := own2 a (by simpa using hb')
      omega
    · rintro a ha b hb' rfl
      have ha' : v3.ownBlock = some a := by simpa using ha
      rcases List.mem_append.1 hb' with y | y
      · rcases new3 a ha' with u | u
        · exact (List.nodup_append.1 h5).2.2 a (by simp [u]) a y rfl
        · have := old a y
          omega
      · have := own2 a (by simpa using y)
        rcases new3 a ha' with u | u
        · have := own1 a u
          omega
        · omega
  · rcases List.mem_cons.1 y with u | u
    · have := hb q hq; omega
    · have := own1 q (by simpa using u)
      have := hb q hq
      omega
set_option maxRecDepth 100000 in
set_option maxHeartbeats 8000000 in
theorem chunks_any (A : Option Addr) (c : Nat) (ms : List Item) (W : World) (hm : ms.length ≤ 100000) (hc : ms.length ≤ c) (hA : ItemsAt W A ms) :
    Calls Try.prog 25 #[.slice A ms.length c] W (ChunksPost W ms) := by
  obtain ⟨i0, hi0, hz0, hs0, hb0⟩ := infoLists
  obtain ⟨b, off, hA⟩ := hA
  obtain ⟨n, hn⟩ : ∃ n, ms.length = n := ⟨_, rfl⟩
  obtain ⟨bs, hbs⟩ : ∃ bs, (if 0 < n then [b] else []) = bs := ⟨_, rfl⟩
  have hbW : ∀ q ∈ bs, q < W.heap.size := by
    rw [← hbs]
    split
    · rename_i h
      intro q hq
      simp at hq
      subst hq
      exact (hA 0 (by omega)).2.1
    · simp
  have HBS : Hid (0 < n → b ∈ bs) := fun h => by rw [← hbs, if_pos h]; simp
  have hcells : ∀ i (h : i < ms.length), W.cell? ⟨b, off + i * 2, none⟩ = some (.string (ms[i]).1) ∧ W.cell? ⟨b, off + i * 2 + 1, none⟩ = some (.string (ms[i]).2) := fun i h => (hA i h).2.2
  have hA1 : 1 ≤ n → A = some ⟨b, off, none⟩ := fun h => (hA 0 (by omega)).1
  have HN := Lib.hid hn
  have HA := Lib.hid hA1
  have HBW := Lib.hid hbW
  have HCE := Lib.hid hcells
  rw [hn] at hm hc ⊢
  clear hn hA hA1 hbW hbs hcells
  refine (callsIn_wide (n := 0)).1 (callsIn_of_wp_marks Try.func25 rfl trivial ?_ rfl)
  simp only [Try.ntmps25, List.size_toArray, List.length_cons, List.length_nil, Nat.reduceAdd, Nat.reduceSub, Array.replicate_succ, Array.replicate_zero, List.push_toArray, List.append_toArray, List.nil_append, List.cons_append]
  gi_wp2_with (refine ⟨trivial, rfl, ?_⟩; gi_at_call 39; refine (callsIn_wide.2 (chunk_any A n c _)).mono ?_; rintro e w' ⟨rfl, rfl⟩)
  have v1 : Var (((W.alloc (.cells #[.slice none 0 0] 58)).alloc (.cells #[.slice A n c] 22)).alloc (.cells #[.int .i64 4] 3)) W.heap.size (.slice none 0 0) := ((Var.new W _ _).old _).old _
  have v2 : (((W.alloc (.cells #[.slice none 0 0] 58)).alloc (.cells #[.slice A n c] 22)).alloc (.cells #[.int .i64 4] 3)).cell? ⟨W.heap.size + 1, 0, none⟩ = some (.slice A n c) := by go_simp
  have v3 : (((W.alloc (.cells #[.slice none 0 0] 58)).alloc (.cells #[.slice A n c] 22)).alloc (.cells #[.int .i64 4] 3)).cell? ⟨W.heap.size + 1 + 1, 0, none⟩ = some (.int .i64 4) := by go_simp
  obtain ⟨W2, hW2⟩ : ∃ W2, ((W.alloc (.cells #[.slice none 0 0] 58)).alloc (.cells #[.slice A n c] 22)).alloc (.cells #[.int .i64 4] 3) = W2 := ⟨_, rfl⟩
  rw [hW2] at v1 v2 v3
  have b2 : Below W.heap.size W W2 := by
    rw [← hW2]; exact (((Below.refl _ W).alloc (Nat.le_refl _) _).alloc (by simp) _).alloc (by simp; omega) _
  have z2 : W2.heap.size = W.heap.size + 3 := by rw [← hW2]; simp
  rw [hW2]
  have HB := Lib.hid b2
  have HLB : Hid (∀ q ∈ [W.heap.size + 1, W.heap.size + 1 + 1] ++ bs, q < W2.heap.size) := fun q hq => by
    rcases List.mem_append.1 hq with z | z
    · simp at z; omega
    · have := HBW.out q z; omega
  have HCL : Hid (∀ V, Below W.heap.size W V → ∀ i (h : i < ms.length), V.cell? ⟨b, off + i * 2, none⟩ = some (.string (ms[i]).1) ∧ V.cell? ⟨b, off + i * 2 + 1, none⟩ = some (.string (ms[i]).2)) := fun V hV i hi => by
    have hb := HBW.out b (HBS.out (by have := HN.out; omega))
    exact ⟨(hV.cell (p := ⟨b, off + i * 2, none⟩) hb).trans (HCE.out i hi).1, (hV.cell (p := ⟨b, off + i * 2 + 1, none⟩) hb).trans (HCE.out i hi).2⟩
  clear b2 hW2
  refine wp_seq (α := Value) (enc := fun v => #[v]) (gf := 55) (lb := #[.pointer (some ⟨W.heap.size + 1, 0, none⟩), .pointer (some ⟨W.heap.size + 1 + 1, 0, none⟩)]) rfl (enters_of Try.func55 (by kernel_rfl) rfl) (xs := chVs A n) (B := [W.heap.size + 1, W.heap.size + 1 + 1] ++ bs)
    (fun V hV => chunkWay (by omega) hc (fun h => ⟨b, off, HA.out h⟩) ((hV.cell (p := ⟨W.heap.size + 1, 0, none⟩) (World.block_lt_of_cell? W2 _ v2)).trans v2) ((hV.cell (p := ⟨W.heap.size + 1 + 1, 0, none⟩) (World.block_lt_of_cell? W2 _ v3)).trans v3) _ (by simp) (by simp) (fun q hq => by have := hV.size; have := HLB.out q hq; omega)) HLB.out (fun _ => rfl)
    (ChI W.heap.size W2.heap.size b off bs ms)
    (fun _ _ _ => False)
    (W.heap.size :: bs) (fun q hq => by
      rcases List.mem_cons.1 hq with rfl | z
      · omega
      · have := HBW.out q z; omega) ⟨none, 0, [], by simp [Value.ownBlock, blocksOf], v1, rfl, World.ownsRow_nil _ _ _ _, (fun i v h => by simp at h), by simp [Value.ownBlock, blocksOf], HCL.out _ HB.out⟩
    (by
      rintro m V V1 Y G ⟨A1, c1, vs, rfl, h1, h2, h3, h4, h5, h6⟩ tt hn
      refine ⟨A1, c1, vs, rfl, h1.touch tt (hn _ (by simp)), h2, tt.row h3 (fun q hq => hn q (by simp [hq])), h4.touch tt (fun q hq => hn q (by simp [hq])), h5, fun i hi => ?_⟩
      have hb : b ∈ bs := HBS.out (by have := HN.out; omega)
      exact ⟨cellKeep (h6 i hi).1 tt (hn _ (by simp [hb])), cellKeep (h6 i hi).2 tt (hn _ (by simp [hb]))⟩)
    (fun _ _ _ _ _ h _ _ => h)
    (fun x => { tmps := #[.slice A n c, undef, .slice none 0 0, .pointer (some ⟨W.heap.size, 0, none⟩), x, .slice A n c, .func (.func 55) #[] #[.pointer (some ⟨W.heap.size + 1, 0, none⟩), .pointer (some ⟨W.heap.size + 1 + 1, 0, none⟩)], x, undef, undef, undef, undef, undef, undef], defers := [] })
    ?assign ?body ?done ?stop
  case assign =>
    intro lp x V K hK
    gi_wp2
    exact hK
  case body =>
    rintro lp m x V Y hV hx ⟨A1, c1, vs, rfl, h1, h2, h3, h4, h5, h6⟩ hY
    have c2 := h1.val
    have f2 := h1.free
    have hmx : Try.prog.follows .mixedOrders = true := by kernel_rfl
    have hmK : m < (n + 3) / 4 := by
      have := (List.getElem?_eq_some_iff.1 hx).1
      simpa [chVs] using this
    obtain ⟨k, hk⟩ : ∃ k, min 4 (n - m * 4) = k := ⟨_, rfl⟩
    have hx' : x = .slice (some ⟨b, off + m * 4 * 2, none⟩) k k := by
      rw [chVs, List.getElem?_map, List.getElem?_range hmK] at hx
      simp only [Option.map_some, Option.some.injEq] at hx
      rw [← hx, HA.out (by omega), chV, hk]
    subst hx'
    have HPL : Hid ((piece ms m).length = k) := by
      show (piece ms m).length = k
      rw [piece_length, HN.out, hk]
    have hcl := cloneItems_any b (off + m * 4 * 2) k k (itemCells (piece ms m)) V.drew (by rw [itemCells_length, HPL.out]) (by omega) (fun j u hj => piece_cells h6 j u hj) (items_one _)
    have HC := Lib.hid hcl
    clear hcl hx
    gi_wp2
    have H1 := Lib.hid h1
    have H3 := Lib.hid h3
    have hno : W.heap.size ∉ (Value.slice A1 m c1).ownBlock.toList := fun y => by
      have := (H3.out.lt _ (by simpa using y)).1
      omega
    have HV3 : Hid (∀ w1 w3 o, Below V.heap.size V w1 → (w1.alloc o).grownBy w3 (Value.slice A1 m c1).ownBlock → Var w3 W.heap.size (.slice A1 m c1)) :=
      fun w1 w3 o hb hg => ((H1.out.below hb).old o).touch ((Touch.refl (Value.slice A1 m c1).ownBlock.toList _).grown hg (fun q hq => .inl (by simp [hq]))) hno
    have HFIN : Hid (∀ w1 w3 A2 d2 A3 c3 o, Below V.heap.size V w1 → w1.ownsRow V.drew.heap.size 39 2 (.slice A2 k d2) k (itemCells (piece ms m)) → w3.ownsRow W2.heap.size 22 1 (.slice A3 (m + 1) c3) (m + 1) (vs ++ [.slice A2 k d2]) → (w1.alloc o).grownBy w3 (Value.slice A1 m c1).ownBlock → SameOrNew (w1.alloc o) (.slice A1 m c1) (.slice A3 (m + 1) c3) →
        ∃ Y', Left ([W.heap.size + 1, W.heap.size + 1 + 1] ++ bs) (W.heap.size :: (bs ++ ((Value.slice A1 m c1).ownBlock.toList ++ blocksOf vs))) V (w3.setCell ⟨W.heap.size, 0, none⟩ (.slice A3 (m + 1) c3)) Y' ∧ ChI W.heap.size W2.heap.size b off bs ms (m + 1) (w3.setCell ⟨W.heap.size, 0, none⟩ (.slice A3 (m + 1) c3)) Y') := by
      intro w1 w3 A2 d2 A3 c3 o q1 q2 q3 q4 q5
      obtain ⟨y1, y2, y3, y4, y5, y6⟩ := chunk_round (by omega) HBW.out H1.out h2 H3.out h4 h5 hV HPL.out q1 q2 q3 q4 q5
      refine ⟨_, y1, A3, c3, _, rfl, y2, by simp [h2], y3, y4, y5, fun i hi => ?_⟩
      have hb : b ∈ bs := HBS.out (by have := HN.out; omega)
      obtain ⟨⟨G, tG, hG⟩, _⟩ := y1
      have hnG : b ∉ G := fun z => (hG _ z).2 (List.mem_append_right _ hb)
      exact ⟨cellKeep (h6 i hi).1 tG hnG, cellKeep (h6 i hi).2 tG hnG⟩
    clear h1 h2 h3 h4 h5 h6 hno hY
    refine wpIn_region_any hmx ?_
    change wpAnyIn _ _ _ _ _ _ _ _ _ (World.drew _)
    refine wpAnyIn_ready (rs := [0, 1]) (by kernel_rfl) (by simp) ?_
    refine AllReadyIn.cons rfl (fun K hK => ?_) (AllReadyIn.cons rfl (fun K hK => ?_) AllReadyIn.nil)
    · go_simp
      refine hK _ _ ?_
      clear hK K
      refine wpAnyIn_ready (rs := [1]) (by kernel_rfl) (by simp) ?_
      refine AllReadyIn.cons rfl (fun K hK => ?_) AllReadyIn.nil
      go_simp
      refine hK _ _ ?_
      clear hK K
      refine wpAnyIn_ready (rs := [2]) (by kernel_rfl) (by simp) ?_
      refine AllReadyIn.cons rfl (fun K hK => ?_) AllReadyIn.nil
      go_simp
      gi_wp2_with (refine ⟨trivial, rfl, ?_⟩; gi_at_call 40; refine (CallsIn.inRound lp (callsIn_wide.2 HC.out)).mono ?_; rintro e w1 ⟨v', rfl, r1, b1⟩; obtain ⟨A2, d2, rfl⟩ := own_slice r1; have b1 : Below V.heap.size V w1 := (Below.refl _ V).drew.trans b1; have c2 : w1.cell? ⟨W.heap.size, 0, none⟩ = some (.slice A1 m c1) := (H1.out.below b1).val; have c2a : ∀ o, (w1.alloc o).cell? ⟨W.heap.size, 0, none⟩ = some (.slice A1 m c1) := fun o => ((H1.out.below b1).old o).val; have HB1 := Lib.hid b1; have HR1 := Lib.hid r1; clear b1 r1)
      try (refine hK _ _ ?_; clear hK K)
      refine wpAnyIn_ready (rs := [3]) (by kernel_rfl) (by simp) ?_
      refine AllReadyIn.cons rfl (fun K hK => ?_) AllReadyIn.nil
      go_simp
      refine hK _ _ ?_
      clear hK K
      refine wpAnyIn_ready (rs := [4]) (by kernel_rfl) (by simp) ?_
      refine AllReadyIn.cons rfl (fun K hK => ?_) AllReadyIn.nil
      refine stepIn_append_any rfl (.tmp 8) (.tmp 11) 58 rfl W2.heap.size 22 i0 (.slice none 0 0) 1 24 Try.underlying58 hi0 hz0 hs0 hb0 rfl (by decide) (.slice A1 m c1) m vs rfl ((own_keep H3.out HB1.out).alloc _) (.slice (some ⟨w1.heap.size, 0, none⟩) 1 1) 1 [.slice A2 k d2] rfl (.inr ⟨_, _, rfl, rfl, cell_one_new _ _ _⟩) (fun u hu => by simp at hu; subst hu; rfl) (by unfold maxLen; omega) (by omega) (by have := HB1.out.size; simp; omega) ?_
      intro A3 c3 w3 ho3 hg3 hs3
      have k3 := HV3.out w1 w3 _ HB1.out hg3
      have f3 := k3.free
      have c3' := k3.val
      have HFE := Lib.hid (HFIN.out _ _ _ _ _ _ _ HB1.out HR1.out ho3 hg3 hs3)
      clear k3 ho3 hg3 hs3
      refine hK _ _ ?_
      clear hK K
      refine wpAnyIn_ready (rs := [5]) (by kernel_rfl) (by simp) ?_
      refine AllReadyIn.cons rfl (fun K hK => ?_) AllReadyIn.nil
      go_simp
      refine hK _ _ ?_
      clear hK K
      refine wpAnyIn_done (by kernel_rfl) ?_ _
      gi_wp2
      exact HFE.out
    · go_simp
      refine hK _ _ ?_
      clear hK K
      refine wpAnyIn_ready (rs := [0, 2]) (by kernel_rfl) (by simp) ?_
      refine AllReadyIn.cons rfl (fun K hK => ?_) (AllReadyIn.cons rfl (fun K hK => ?_) AllReadyIn.nil)
      · go_simp
        refine hK _ _ ?_
        clear hK K
        refine wpAnyIn_ready (rs := [2]) (by kernel_rfl) (by simp) ?_
        refine AllReadyIn.cons rfl (fun K hK => ?_) AllReadyIn.nil
        go_simp
        gi_wp2_with (refine ⟨trivial, rfl, ?_⟩; gi_at_call 40; refine (CallsIn.inRound lp (callsIn_wide.2 HC.out)).mono ?_; rintro e w1 ⟨v', rfl, r1, b1⟩; obtain ⟨A2, d2, rfl⟩ := own_slice r1; have b1 : Below V.heap.size V w1 := (Below.refl _ V).drew.trans b1; have c2 : w1.cell? ⟨W.heap.size, 0, none⟩ = some (.slice A1 m c1) := (H1.out.below b1).val; have c2a : ∀ o, (w1.alloc o).cell? ⟨W.heap.size, 0, none⟩ = some (.slice A1 m c1) := fun o => ((H1.out.below b1).old o).val; have HB1 := Lib.hid b1; have HR1 := Lib.hid r1; clear b1 r1)
        try (refine hK _ _ ?_; clear hK K)
        refine wpAnyIn_ready (rs := [3]) (by kernel_rfl) (by simp) ?_
        refine AllReadyIn.cons rfl (fun K hK => ?_) AllReadyIn.nil
        go_simp
        refine hK _ _ ?_
        clear hK K
        refine wpAnyIn_ready (rs := [4]) (by kernel_rfl) (by simp) ?_
        refine AllReadyIn.cons rfl (fun K hK => ?_) AllReadyIn.nil
        refine stepIn_append_any rfl (.tmp 8) (.tmp 11) 58 rfl W2.heap.size 22 i0 (.slice none 0 0) 1 24 Try.underlying58 hi0 hz0 hs0 hb0 rfl (by decide) (.slice A1 m c1) m vs rfl ((own_keep H3.out HB1.out).alloc _) (.slice (some ⟨w1.heap.size, 0, none⟩) 1 1) 1 [.slice A2 k d2] rfl (.inr ⟨_, _, rfl, rfl, cell_one_new _ _ _⟩) (fun u hu => by simp at hu; subst hu; rfl) (by unfold maxLen; omega) (by omega) (by have := HB1.out.size; simp; omega) ?_
        intro A3 c3 w3 ho3 hg3 hs3
        have k3 := HV3.out w1 w3 _ HB1.out hg3
        have f3 := k3.free
        have c3' := k3.val
        have HFE := Lib.hid (HFIN.out _ _ _ _ _ _ _ HB1.out HR1.out ho3 hg3 hs3)
        clear k3 ho3 hg3 hs3
        refine hK _ _ ?_
        clear hK K
        refine wpAnyIn_ready (rs := [5]) (by kernel_rfl) (by simp) ?_
        refine AllReadyIn.cons rfl (fun K hK => ?_) AllReadyIn.nil
        go_simp
        refine hK _ _ ?_
        clear hK K
        refine wpAnyIn_done (by kernel_rfl) ?_ _
        gi_wp2
        exact HFE.out
      · go_simp
        gi_wp2_with (refine ⟨trivial, rfl, ?_⟩; gi_at_call 40; refine (CallsIn.inRound lp (callsIn_wide.2 HC.out)).mono ?_; rintro e w1 ⟨v', rfl, r1, b1⟩; obtain ⟨A2, d2, rfl⟩ := own_slice r1; have b1 : Below V.heap.size V w1 := (Below.refl _ V).drew.trans b1; have c2 : w1.cell? ⟨W.heap.size, 0, none⟩ = some (.slice A1 m c1) := (H1.out.below b1).val; have c2a : ∀ o, (w1.alloc o).cell? ⟨W.heap.size, 0, none⟩ = some (.slice A1 m c1) := fun o => ((H1.out.below b1).old o).val; have HB1 := Lib.hid b1; have HR1 := Lib.hid r1; clear b1 r1)
        try (refine hK _ _ ?_; clear hK K)
        refine wpAnyIn_ready (rs := [0, 3]) (by kernel_rfl) (by simp) ?_
        refine AllReadyIn.cons rfl (fun K hK => ?_) (AllReadyIn.cons rfl (fun K hK => ?_) AllReadyIn.nil)
        · go_simp
          refine hK _ _ ?_
          clear hK K
          refine wpAnyIn_ready (rs := [3]) (by kernel_rfl) (by simp) ?_
          refine AllReadyIn.cons rfl (fun K hK => ?_) AllReadyIn.nil
          go_simp
          refine hK _ _ ?_
          clear hK K
          refine wpAnyIn_ready (rs := [4]) (by kernel_rfl) (by simp) ?_
          refine AllReadyIn.cons rfl (fun K hK => ?_) AllReadyIn.nil
          refine stepIn_append_any rfl (.tmp 8) (.tmp 11) 58 rfl W2.heap.size 22 i0 (.slice none 0 0) 1 24 Try.underlying58 hi0 hz0 hs0 hb0 rfl (by decide) (.slice A1 m c1) m vs rfl ((own_keep H3.out HB1.out).alloc _) (.slice (some ⟨w1.heap.size, 0, none⟩) 1 1) 1 [.slice A2 k d2] rfl (.inr ⟨_, _, rfl, rfl, cell_one_new _ _ _⟩) (fun u hu => by simp at hu; subst hu; rfl) (by unfold maxLen; omega) (by omega) (by have := HB1.out.size; simp; omega) ?_
          intro A3 c3 w3 ho3 hg3 hs3
          have k3 := HV3.out w1 w3 _ HB1.out hg3
          have f3 := k3.free
          have c3' := k3.val
          have HFE := Lib.hid (HFIN.out _ _ _ _ _ _ _ HB1.out HR1.out ho3 hg3 hs3)
          clear k3 ho3 hg3 hs3
          refine hK _ _ ?_
          clear hK K
          refine wpAnyIn_ready (rs := [5]) (by kernel_rfl) (by simp) ?_
          refine AllReadyIn.cons rfl (fun K hK => ?_) AllReadyIn.nil
          go_simp
          refine hK _ _ ?_
          clear hK K
          refine wpAnyIn_done (by kernel_rfl) ?_ _
          gi_wp2
          exact HFE.out
        · go_simp
          refine hK _ _ ?_
          clear hK K
          refine wpAnyIn_ready (rs := [0]) (by kernel_rfl) (by simp) ?_
          refine AllReadyIn.cons rfl (fun K hK => ?_) AllReadyIn.nil
          go_simp
          refine hK _ _ ?_
          clear hK K
          refine wpAnyIn_ready (rs := [4]) (by kernel_rfl) (by simp) ?_
          refine AllReadyIn.cons rfl (fun K hK => ?_) AllReadyIn.nil
          refine stepIn_append_any rfl (.tmp 8) (.tmp 11) 58 rfl W2.heap.size 22 i0 (.slice none 0 0) 1 24 Try.underlying58 hi0 hz0 hs0 hb0 rfl (by decide) (.slice A1 m c1) m vs rfl ((own_keep H3.out HB1.out).alloc _) (.slice (some ⟨w1.heap.size, 0, none⟩) 1 1) 1 [.slice A2 k d2] rfl (.inr ⟨_, _, rfl, rfl, cell_one_new _ _ _⟩) (fun u hu => by simp at hu; subst hu; rfl) (by unfold maxLen; omega) (by omega) (by have := HB1.out.size; simp; omega) ?_
          intro A3 c3 w3 ho3 hg3 hs3
          have k3 := HV3.out w1 w3 _ HB1.out hg3
          have f3 := k3.free
          have c3' := k3.val
          have HFE := Lib.hid (HFIN.out _ _ _ _ _ _ _ HB1.out HR1.out ho3 hg3 hs3)
          clear k3 ho3 hg3 hs3
          refine hK _ _ ?_
          clear hK K
          refine wpAnyIn_ready (rs := [5]) (by kernel_rfl) (by simp) ?_
          refine AllReadyIn.cons rfl (fun K hK => ?_) AllReadyIn.nil
          go_simp
          refine hK _ _ ?_
          clear hK K
          refine wpAnyIn_done (by kernel_rfl) ?_ _
          gi_wp2
          exact HFE.out
  case done =>
    rintro D V Y hD hDn hL ⟨A1, c1, vs, rfl, h1, h2, h3, h4, h5, h6⟩ hK
    have hlen : (chVs A n).length = (n + 3) / 4 := by simp [chVs]
    rw [hlen] at h1 h2 h3 h5 hDn hL
    have c2 := h1.val
    have HK := Lib.hid hK
    have hp : Touch [D] V (V.putObj D (.deferred none)) := (Touch.refl _ _).put (.inl (by simp)) _
    have HD : Hid (Below W.heap.size W (V.putObj D (.deferred none))) := by
      obtain ⟨⟨G, tG, hG⟩, _⟩ := hL
      refine Touch.acc (Touch.acc HB.out tG (fun q hq => ?_)) hp (by simp; omega)
      obtain ⟨g1, g2⟩ := hG q hq
      rcases List.mem_cons.1 g1 with y | y
      · omega
      · exact absurd (List.mem_append_right _ y) g2
    have hnD : ∀ q, q ∈ (Value.slice A1 ((n + 3) / 4 : Nat) c1).ownBlock.toList ++ blocksOf vs → q ∉ [D] := fun q hq y => hDn (by
      simp at y
      subst y
      exact List.mem_cons_of_mem _ (List.mem_append_right _ hq))
    have HR3 : Hid ((V.putObj D (.deferred none)).ownsRow W.heap.size 22 1 (.slice A1 ((n + 3) / 4 : Nat) c1) ((n + 3) / 4) vs) := own_mono (hp.row h3 (fun q hq => hnD q (List.mem_append_left _ (by simp [hq])))) (by omega)
    have HP4 : Hid (Pieces (V.putObj D (.deferred none)) W.heap.size ms vs) := fun i v hv => by
      obtain ⟨A, c, e, r⟩ := (h4.touch hp (fun q hq => hnD q (List.mem_append_right _ hq))) i v hv
      exact ⟨A, c, e, own_mono r (by omega)⟩
    have H2 := Lib.hid h2
    have H5 := Lib.hid h5
    clear h1 h2 h3 h4 h5 h6 hL hDn hnD hp
    gi_wp2
    refine ⟨by simp, .inl ⟨_, _, rfl, run_takeDeferred HK.out, ?_⟩⟩
    exact ⟨_, results_tmp rfl _ _ _, A1, c1, vs, by rw [HN.out]; rfl, by rw [HN.out]; exact H2.out, by rw [HN.out]; exact HR3.out, HP4.out, by rw [HN.out]; exact H5.out, HD.out⟩
  case stop =>
    rintro D c V Y hD hDn hL h hK
    exact h.elim
end Go.Proofs.Ytojiblhaiokdcaa
