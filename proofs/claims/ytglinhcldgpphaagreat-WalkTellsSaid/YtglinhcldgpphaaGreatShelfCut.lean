/-
  The walk of toLowest: down the right edge, an item written over, its own place left to be taken away.
  The walk of take: an item taken away where a way ends, and the nodes above mended.
  The walk of Del.
-/
import Derived.Test.YtglinhcldgpphaaGreatShelfSet
import Derived.Test.YtglinhcldgpphaaGreatNodeJoin
import Derived.Deep.RegionHeld3
namespace Go.Proofs.YtglinhcldgpphaaGreat
open Go.RowKit

theorem lt_pow4 (h : Nat) : h < 4 ^ h := Nat.lt_pow_self (by omega)
theorem Spine.high {m : NMap} {top : Option Nat} {L : List Item} {steps : List (Nat × Nat)} {g0 i0 q h : Nat} (H : Spine m top L steps g0 i0 q h) : h ≤ L.length := by
  obtain ⟨sp, f, fs, x, ys, d, Z, _, _, _, _, _, _, _, s, _, _, _, hL⟩ := H
  have h1 := s.many
  have h2 := lt_pow4 h
  have h3 : d.l.length ≤ L.length := by rw [hL]; simp; omega
  omega
theorem Found.short {m : NMap} {top : Option Nat} {l : List Item} {k u : ByteArray} {steps : List (Nat × Nat)} {g i : Nat} (H : Found m top l k u steps g i) : steps.length ≤ l.length := by
  obtain ⟨fs, h, xs, ys, cs, hs, _, hc, hm, hk, l1, l2, hnd, ht, hl, hu⟩ := H
  obtain ⟨I', s, _⟩ := Ctx.plug (c := ⟨g, weave cs (xs ++ (k, u) :: ys), g :: cs.flatMap Ch.I⟩) hc ⟨_, cs, hm, l1, l2, hk, rfl, rfl⟩
  have h1 := s.many
  have h2 := lt_pow4 (h + fs.length)
  have h3 : (1 + 1) * 4 ^ (h + fs.length) ≤ l.length + 1 := by rw [hl]; exact h1
  rw [hs, wayC_length]; omega
/-- what toLowest leaves -/
def LowPost (W : World) (top : Option Nat) (L : List Item) (q : Nat) (F : List Nat) (e : Ending) (w : World) : Prop :=
  ∃ st g i q' c m' F', e = .returned (.slice (some ⟨q', 0, none⟩) (st.length + 1) c) ∧ WRow w 0 (.slice (some ⟨q', 0, none⟩) (st ++ [(g, i)]).length c) (st ++ [(g, i)]) ∧ (q' = q ∨ W.heap.size ≤ q') ∧ q' ∉ F' ∧ Sto w m' F' ∧ Lowered m' top L st g i ∧ Touch (q :: F) W w ∧ ∀ z ∈ F', z ∈ F ∨ W.heap.size ≤ z
set_option maxHeartbeats 1000000 in
theorem item_raw (g i q c n : Nat) (W : World) (c0 : W.cell? ⟨g, 0, none⟩ = some (.slice (some ⟨q, 0, none⟩) n c)) (hi : i < n) :
    Calls Tryz.prog 72 #[.agg #[.pointer (some ⟨g, 0, none⟩), .int .i64 (i : Nat)]] W fun e w' => e = .returned (.pointer (some ⟨q, i * 2, none⟩)) ∧ Below W.heap.size W w' := by
  have hg : g < W.heap.size := block_lt_of_cell c0
  have b2 : (i : Int) < (n : Int) := by omega
  clear hi
  go_enter Tryz.func72, Tryz.ntmps72
  go_wp2
  go_quiet (fail)
  go_wp2
  go_ret
  exact ⟨rfl, below_drewN ((Below.refl _ _).alloc (Nat.le_refl _) _) _⟩
/-- what a cell holds -/
def oldAt (w : World) (a : Addr) : Value := (w.cell? a).getD undef
theorem oldAt_of {w : World} {a : Addr} {v : Value} (h : w.cell? a = some v) : w.cell? a = some (oldAt w a) := by rw [oldAt, h]; rfl
def Held (V : World) (q i : Nat) (A : World → Prop) (w : World) : Prop := Touch [q] V w ∧ w.frozen? ⟨q, i * 2, none⟩ = false ∧ w.frozen? ⟨q, i * 2 + 1, none⟩ = false ∧ w.cell? ⟨q, i * 2, none⟩ = some (oldAt w ⟨q, i * 2, none⟩) ∧ w.cell? ⟨q, i * 2 + 1, none⟩ = some (oldAt w ⟨q, i * 2 + 1, none⟩) ∧ A w
theorem held_start {V : World} {q i : Nat} {A : World → Prop} {x y : Value} (HSS : ∀ w', Touch [q] V w' → A w') (h0 : V.frozen? ⟨q, i * 2, none⟩ = false) (h1 : V.frozen? ⟨q, i * 2 + 1, none⟩ = false) (h2 : V.cell? ⟨q, i * 2, none⟩ = some x) (h3 : V.cell? ⟨q, i * 2 + 1, none⟩ = some y) : Held V q i A V.drew :=
  ⟨(Touch.refl _ _).drew, h0, h1, oldAt_of h2, oldAt_of h3, HSS _ (Touch.refl _ _).drew⟩
theorem held_step {V : World} {q i : Nat} {A : World → Prop} (HSS : ∀ w', Touch [q] V w' → A w') {w w1 : World} (hb : Below w.heap.size w w1) (h : Held V q i A w) : Held V q i A w1 := by
  obtain ⟨a, b, c, d, e, -⟩ := h
  have t : Touch [q] V w1 := a.trans (Touch.ofBelow (F := []) hb) (by simp)
  have hq : q < w.heap.size := block_lt_of_cell d
  exact ⟨t, (hb.frozen (p := ⟨q, i * 2, none⟩) hq).trans b, (hb.frozen (p := ⟨q, i * 2 + 1, none⟩) hq).trans c, oldAt_of ((hb.cell (p := ⟨q, i * 2, none⟩) hq).trans d), oldAt_of ((hb.cell (p := ⟨q, i * 2 + 1, none⟩) hq).trans e), HSS _ t⟩
theorem held_store {V : World} {q i : Nat} {A : World → Prop} (HSS : ∀ w', Touch [q] V w' → A w') {w : World} (h : Held V q i A w) (u1 u2 : Value) : Held V q i A ((w.setCell ⟨q, i * 2, none⟩ u1).setCell ⟨q, i * 2 + 1, none⟩ u2) := by
  obtain ⟨a, b, c, d, e, -⟩ := h
  have t : Touch [q] V ((w.setCell ⟨q, i * 2, none⟩ u1).setCell ⟨q, i * 2 + 1, none⟩ u2) := (a.set (.inl (by simp)) _).set (.inl (by simp)) _
  refine ⟨t, ?_, ?_, oldAt_of (v := u1) ?_, oldAt_of (v := u2) ?_, HSS _ t⟩
  · rw [World.frozen?_setCell, World.frozen?_setCell]; exact b
  · rw [World.frozen?_setCell, World.frozen?_setCell]; exact c
  · rw [World.cell?_setCell_other _ _ _ _ (by simp)]; exact World.cell?_setCell_same _ _ _ d
  · have h5 : (w.setCell ⟨q, i * 2, none⟩ u1).cell? ⟨q, i * 2 + 1, none⟩ = some (oldAt w ⟨q, i * 2 + 1, none⟩) := by rw [World.cell?_setCell_other _ _ _ _ (by simp)]; exact e
    exact World.cell?_setCell_same _ _ _ h5
theorem stepCells_mark (st : List (Nat × Nat)) (g n n' : Nat) : (stepCells (st ++ [(g, n)])).set (st.length * 2 + 1) (.int .i64 (n' : Nat)) = stepCells (st ++ [(g, n')]) := by
  have zl := stepCells_length st
  rw [stepCells_append, stepCells_append, List.set_append_right _ _ (by omega), zl, show st.length * 2 + 1 - st.length * 2 = 1 by omega]
  rfl
/-- the place of a way's end written anew -/
theorem low_mark {W wr : World} {m : NMap} {F : List Nat} {q qA n n' c' g' : Nat} {st' : List (Nat × Nat)} {x y : Value} (hS : Sto W m F) (hq : q ∉ F) (hT : Touch [q] W wr) (hR : WRow wr 0 (.slice (some ⟨qA, 0, none⟩) (st' ++ [(g', n)]).length c') (st' ++ [(g', n)])) (hqA : qA = q ∨ W.heap.size < qA)
    (hqw : q < W.heap.size) (hB : Box2 wr W.heap.size x y) : Touch [q] W (wr.setCell ⟨qA, st'.length * 2 + 1, none⟩ (.int .i64 (n' : Nat))) ∧ Sto (wr.setCell ⟨qA, st'.length * 2 + 1, none⟩ (.int .i64 (n' : Nat))) m F ∧ Box2 (wr.setCell ⟨qA, st'.length * 2 + 1, none⟩ (.int .i64 (n' : Nat))) W.heap.size x y ∧
      WRow (wr.setCell ⟨qA, st'.length * 2 + 1, none⟩ (.int .i64 (n' : Nat))) 0 (.slice (some ⟨qA, 0, none⟩) (st' ++ [(g', n')]).length c') (st' ++ [(g', n')]) := by
  have t1 : Touch [q] W (wr.setCell ⟨qA, st'.length * 2 + 1, none⟩ (.int .i64 (n' : Nat))) := hT.set (by rcases hqA with z | z; exact .inl (by simp [z]); exact .inr (by show W.heap.size ≤ qA; omega)) _
  have hne : qA ≠ W.heap.size := by rcases hqA with z | z <;> omega
  refine ⟨t1, hS.touch t1 (fun z hz e => hq (by simp at e; rw [← e]; exact hz)), hB.touch ((Touch.refl [qA] _).set (.inl (by simp)) _) (by simp; omega), ?_⟩
  have hown : wr.ownsRow 0 103 2 (.slice (some ⟨qA, 0, none⟩) (st' ++ [(g', n)]).length c') (st' ++ [(g', n)]).length (stepCells (st' ++ [(g', n)])) := hR
  obtain ⟨a, -⟩ := hown.stored (st'.length * 2 + 1) (.int .i64 (n' : Nat))
  rw [stepCells_mark] at a
  have e : (st' ++ [(g', n')]).length = (st' ++ [(g', n)]).length := by simp
  show World.ownsRow _ _ _ _ _ _ _
  rw [e]; exact a
theorem low_two {V w1 w2 : World} (h2 : Below w1.heap.size w1 w2) (h1 : Below V.drew.heap.size V.drew w1) : Touch [] V w2 := ((Touch.refl [] V).drew.trans (Touch.ofBelow (F := []) h1) (by simp)).trans (Touch.ofBelow (F := []) h2) (by simp)
theorem low_fin {W V w9 : World} {m : NMap} {F : List Nat} {top : Option Nat} {L : List Item} {q qA qq g g' i n' c' : Nat} {st' : List (Nat × Nat)} {p : Item} {its2 : List Item} {ps2 : List Nat} (T1 : Touch [q] W V) (hS : Sto W m F) (T4 : WRow V 0 (.slice (some ⟨qA, 0, none⟩) (st' ++ [(g', n')]).length c') (st' ++ [(g', n')])) (hb : Touch [] V w9)
    (hqA : qA = q ∨ W.heap.size < qA) (hqF : q ∉ F) (HFIN : ∀ m' : NMap, m' g = some ⟨its2.set i p, ps2⟩ → (∀ z, z ≠ g → m' z = m z) → Lowered m' top L st' g' n')
    (H9 : ∀ (W2 : World) (k v : ByteArray), Touch [] V W2 → ∃ F', Sto ((W2.setCell ⟨qq, i * 2, none⟩ (.string k)).setCell ⟨qq, i * 2 + 1, none⟩ (.string v)) (upd m g ⟨its2.set i (k, v), ps2⟩) F' ∧ Stp W2 F ((W2.setCell ⟨qq, i * 2, none⟩ (.string k)).setCell ⟨qq, i * 2 + 1, none⟩ (.string v)) F') :
    LowPost W top L q F (.returned (.slice (some ⟨qA, 0, none⟩) (st'.length + 1) c')) ((w9.setCell ⟨qq, i * 2, none⟩ (.string p.1)).setCell ⟨qq, i * 2 + 1, none⟩ (.string p.2)) := by
  obtain ⟨F', hS', hP1, hP2⟩ := H9 w9 p.1 p.2 hb
  have hqAF : qA ∉ F := fun e => by
    rcases hqA with z | z
    · exact hqF (z ▸ e)
    · have := hS.lt qA e; omega
  have hqV : qA < V.heap.size := (T4.lt qA rfl).2
  have hVw := hb.size
  have hWV := T1.size
  have tW : Touch [q] W w9 := T1.trans hb (by simp)
  refine ⟨st', g', n', qA, c', _, F', rfl, hP1.row (hb.row T4 (by simp)) (fun z e => by rw [← Option.some.inj e]; exact hqAF), by rcases hqA with z | z; exact .inl z; exact .inr (by omega), fun e => ?_, hS', HFIN _ (upd_same m g _) (fun z hz => upd_other m _ hz), ?_, fun z hz => ?_⟩
  · rcases hP2 qA e with z | z
    · exact hqAF z
    · omega
  · exact (tW.mono (by simp)).trans (hP1.mono (fun z hz => List.mem_cons_of_mem q hz)) (fun z hz => .inl hz)
  · rcases hP2 z hz with h | h
    · exact .inl h
    · exact .inr (by omega)
/-- the loop down the right edge: the way so far, whose row lies in block q or a new one -/
def LowSt (W : World) (m : NMap) (top : Option Nat) (L : List Item) (q g0 i0 : Nat) (wx : World) (steps : List (Nat × Nat)) (A : Option Addr) (c : Nat) (p : Value) (gh : Nat) : Prop :=
  WRow wx 0 (.slice A steps.length c) steps ∧ (∀ z, (Value.slice A steps.length c).ownBlock = some z → z = q ∨ W.heap.size < z) ∧ Touch [q] W wx ∧ steps.length + gh ≤ 1000 ∧
    ((∃ r h, p = .pointer (some ⟨r, 0, none⟩) ∧ Spine m top L steps g0 i0 r h ∧ h + 2 ≤ gh) ∨ (p = .pointer none ∧ 1 ≤ gh ∧ ∃ st g n, steps = st ++ [(g, n + 1)] ∧ Bottom m top L st g0 i0 g n))
theorem low_own {W V : World} {v v' : Value} {q : Nat} (hA : ∀ z, v.ownBlock = some z → z = q ∨ W.heap.size < z) (hs : SameOrNew V v v') (hV : W.heap.size + 1 ≤ V.heap.size) : ∀ z, v'.ownBlock = some z → z = q ∨ W.heap.size < z := fun z e => by
  rcases hs z e with h | h
  · exact hA z h
  · exact .inr (by omega)
theorem low_row {W : World} {v : Value} {q : Nat} (hA : ∀ z, v.ownBlock = some z → z = q ∨ W.heap.size < z) : ∀ k, v.ownBlock = some k → k ∈ [q] ∨ W.heap.size ≤ k := fun k e => by
  rcases hA k e with h | h
  · exact .inl (by simp [h])
  · exact .inr (by omega)
theorem low_row1 {W : World} {v : Value} {q : Nat} {o : Obj} (hA : ∀ z, v.ownBlock = some z → z = q ∨ W.heap.size < z) : ∀ k, v.ownBlock = some k → k ∈ [q] ∨ (W.alloc o).heap.size ≤ k := fun k e => by
  rcases hA k e with h | h
  · exact .inl (by simp [h])
  · exact .inr (by simp; omega)
theorem low_ne {W : World} {v : Value} {q r : Nat} (hA : ∀ z, v.ownBlock = some z → z = q ∨ W.heap.size < z) (h1 : r < W.heap.size) (h2 : r ≠ q) : some r ≠ v.ownBlock := fun e => by
  rcases hA r e.symm with h | h
  · exact h2 h
  · omega
end Go.Proofs.YtglinhcldgpphaaGreat
namespace Go.Proofs.YtglinhcldgpphaaGreat
open Go.RowKit

/-- what take leaves: as what turns the tree, but the way's own row may be written -/
def TakePost (W : World) (gs q : Nat) (F : List Nat) (n most : Int) (L : List Item) (e : Ending) (w : World) : Prop :=
  e = .returned (.tuple #[]) ∧ ∃ top m F', ShX w gs top n most ∧ Sto w m F' ∧ gs ∉ F' ∧ TreeIs m top L ∧ Touch (q :: gs :: F) W w ∧ ∀ z ∈ F', z ∈ F ∨ W.heap.size ≤ z
/-- take on its way up -/
def TakeSt (W : World) (gs q : Nat) (F1 : List Nat) (top : Option Nat) (n most : Int) (L : List Item) (qA c : Nat) (wx : World) (st : List (Nat × Nat)) : Prop :=
  ∃ m F g i, ShX wx gs top n most ∧ Sto wx m F ∧ gs ∉ F ∧ qA ∉ F ∧ qA ≠ gs ∧ Sunk m top L st ∧ WRow wx 0 (.slice (some ⟨qA, 0, none⟩) (st ++ [(g, i)]).length c) (st ++ [(g, i)]) ∧ Touch (q :: gs :: F1) W wx ∧ ∀ z ∈ F, z ∈ F1 ∨ W.heap.size ≤ z
theorem take_start {W V w1 w2 : World} {gs q qA cA g1 i1 : Nat} {F1 F2 F3 : List Nat} {top : Option Nat} {n most : Int} {L : List Item} {m2 : NMap} {o : Obj} {st : List (Nat × Nat)} (hT : Touch [gs] W V) (hX : ShX V gs top n most) (hg : gs ∉ F1) (hqg : q ≠ gs)
    (r1 : WRow w1 0 (.slice (some ⟨qA, 0, none⟩) (st ++ [(g1, i1)]).length cA) (st ++ [(g1, i1)])) (r2 : qA = q ∨ V.heap.size ≤ qA) (r3 : qA ∉ F2) (r6 : Touch (q :: F1) V w1) (r7 : ∀ z ∈ F2, z ∈ F1 ∨ V.heap.size ≤ z)
    (hS2 : Sto w2 m2 F3) (hP2 : Stp (w1.alloc o) F2 w2 F3) (hsk : Sunk m2 top L st) : TakeSt W gs q F1 top n most L qA cA w2 st := by
  have hgl := hX.lt
  have hVW := hT.size
  have h1V := r6.size
  have hz : (w1.alloc o).heap.size = w1.heap.size + 1 := by simp
  have hg2 : gs ∉ F2 := fun e => by
    rcases r7 gs e with z | z
    · exact hg z
    · omega
  have hqw : qA < w1.heap.size := (r1.lt qA rfl).2
  have x1 := (hX.touch r6 (by simp [hg]; exact fun e => hqg e.symm)).touch ((Touch.refl [] w1).alloc o) (by simp)
  refine ⟨m2, F3, g1, i1, x1.touch hP2.1 hg2, hS2, notin_step hP2 (by omega) hg2, notin_step hP2 (by omega) r3, ?_, hsk, hP2.1.row (r1.alloc o) (fun z e => by rw [← Option.some.inj e]; exact r3), ?_, fun z hz2 => ?_⟩
  · rcases r2 with z | z
    · rw [z]; exact hqg
    · omega
  · have a : Touch (q :: gs :: F1) W w1 := (hT.mono (by simp)).trans r6 (fun z hz => by
      rcases List.mem_cons.1 hz with e | e
      · exact .inl (by rw [e]; simp)
      · exact .inl (by simp [e]))
    exact (a.alloc o).trans hP2.1 (fun z hz => by
      rcases r7 z hz with e | e
      · exact .inl (by simp [e])
      · exact .inr (by omega))
  · rcases hP2.2 z hz2 with e | e
    · rcases r7 z e with e | e
      · exact .inl e
      · exact .inr (by omega)
    · exact .inr (by omega)
theorem take_step {W wx w2 : World} {gs q qA c g i : Nat} {F1 F F2 : List Nat} {top : Option Nat} {n most : Int} {L : List Item} {m2 : NMap} {o : Obj} {st : List (Nat × Nat)} (hX : ShX wx gs top n most) (hg : gs ∉ F) (hqA : qA ∉ F) (hqg : qA ≠ gs)
    (hR : WRow wx 0 (.slice (some ⟨qA, 0, none⟩) (st ++ [(g, i)]).length c) (st ++ [(g, i)])) (hT : Touch (q :: gs :: F1) W wx) (hF : ∀ z ∈ F, z ∈ F1 ∨ W.heap.size ≤ z)
    (hS2 : Sto w2 m2 F2) (hP2 : Stp (wx.alloc o) F w2 F2) (hsk : Sunk m2 top L st) : TakeSt W gs q F1 top n most L qA c w2 st := by
  have hgl := hX.lt
  have hVW := hT.size
  have hz : (wx.alloc o).heap.size = wx.heap.size + 1 := by simp
  have hqw : qA < wx.heap.size := (hR.lt qA rfl).2
  have x1 := hX.touch ((Touch.refl [] wx).alloc o) (by simp)
  refine ⟨m2, F2, g, i, x1.touch hP2.1 hg, hS2, notin_step hP2 (by omega) hg, notin_step hP2 (by omega) hqA, hqg, hsk, hP2.1.row (hR.alloc o) (fun z e => by rw [← Option.some.inj e]; exact hqA), ?_, fun z hz2 => ?_⟩
  · exact (hT.alloc o).trans hP2.1 (fun z hz => by
      rcases hF z hz with e | e
      · exact .inl (by simp [e])
      · exact .inr e)
  · rcases hP2.2 z hz2 with e | e
    · exact hF z e
    · exact .inr (by omega)
theorem take_set {W wx : World} {gs q : Nat} {F1 F : List Nat} {top top' : Option Nat} {n most : Int} {L : List Item} {m : NMap} (hX : ShX wx gs top n most) (hS : Sto wx m F) (hg : gs ∉ F) (hT : Touch (q :: gs :: F1) W wx) (hF : ∀ z ∈ F, z ∈ F1 ∨ W.heap.size ≤ z) (hTr : TreeIs m top' L) {v : Value} (hv : optPtr top' = v) :
    TakePost W gs q F1 n most L (.returned (.tuple #[])) (wx.setCell ⟨gs, 0, none⟩ v) := by
  subst hv
  exact ⟨rfl, top', m, F, hX.set0, hS.touch ((Touch.refl [gs] _).set (.inl (by simp)) _) (fun z hz e => hg (by simp at e; rw [← e]; exact hz)), hg, hTr, hT.set (.inl (by simp)) _, hF⟩
end Go.Proofs.YtglinhcldgpphaaGreat
namespace Go.Proofs.YtglinhcldgpphaaGreat
open Go.RowKit

def DelPost (W : World) (gs : Nat) (most : Int) (l : List Item) (F : List Nat) (k : ByteArray) (e : Ending) (w' : World) : Prop :=
  e = .returned (.bool (hasN l k)) ∧ ∃ F', SH w' gs most (delN l k) F' ∧ Touch F W w' ∧ ∀ q ∈ F', q ∈ F ∨ W.heap.size ≤ q
theorem delN_none {l : List Item} {k : ByteArray} (h : hasN l k = false) : delN l k = l := by rw [delN, h]; rfl
theorem del_took {W w1 w : World} {gs q : Nat} {most n : Int} {l L : List Item} {F1 : List Nat} {k : ByteArray} (hd : delN l k = L) (hh : hasN l k = true) (hr : Rising l) (hl : (L.length : Int) = n) (hlm : n ≤ most) (hm2 : most ≤ 200) (hb : Below W.heap.size W w1) (hq : W.heap.size ≤ q) (h : TakePost w1 gs q F1 n most L (.returned (.tuple #[])) w) :
    DelPost W gs most l (gs :: F1) k (.returned (.bool true)) w := by
  obtain ⟨-, top, m, F', a, b, c, d, e1, e2⟩ := h
  subst hd
  subst hl
  refine ⟨by rw [hh], gs :: F', ⟨top, m, F', a, b, c, rfl, d, hr.del k, hlm, hm2⟩, (Touch.ofBelow (F := gs :: F1) hb).trans e1 (fun x hx => ?_), fun z hz => ?_⟩
  · rcases List.mem_cons.1 hx with e | e
    · exact .inr (by rw [e]; exact hq)
    · exact .inl e
  · rcases List.mem_cons.1 hz with e | e
    · exact .inl (by rw [e]; simp)
    · rcases e2 z e with e | e
      · exact .inl (by simp [e])
      · exact .inr (Nat.le_trans hb.size e)
end Go.Proofs.YtglinhcldgpphaaGreat
