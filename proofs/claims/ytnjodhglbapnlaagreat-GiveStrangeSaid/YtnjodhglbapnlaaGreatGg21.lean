import Derived.Test.YtnjodhglbapnlaaGreatGg20
import Derived.Test.YtnjodhglbapnlaaGreatGg16
import Derived.Deep.RegionHeld3
set_option maxRecDepth 100000
set_option maxHeartbeats 16000000
namespace Go.Proofs.YtnjodhglbapnlaaGreat
open Go.RowKit
theorem yox (h : Nat) : h < 4 ^ h := Nat.lt_pow_self (by omega)
theorem yeh.high {m : NMap} {top : Option Nat} {L : List Item} {steps : List (Nat × Nat)} {g0 i0 q h : Nat} (H : yeh m top L steps g0 i0 q h) : h ≤ L.length := by
 obtain ⟨sp, f, fs, x, ys, d, Z, _, _, _, _, _, _, _, s, _, _, _, hL⟩ := H
 have h1 := s.many
 have h2 := yox h
 have h3 : d.l.length ≤ L.length := by rw [hL]; simp; omega
 omega
theorem Found.short {m : NMap} {top : Option Nat} {l : List Item} {k u : ByteArray} {steps : List (Nat × Nat)} {g i : Nat} (H : Found m top l k u steps g i) : steps.length ≤ l.length := by
 obtain ⟨fs, h, xs, ys, cs, hs, _, hc, hm, hk, l1, l2, hnd, ht, hl, hu⟩ := H
 obtain ⟨I', s, _⟩ := Ctx.plug (c := ⟨g, yab cs (xs ++ (k, u) :: ys), g :: cs.flatMap Ch.I⟩) hc ⟨_, cs, hm, l1, l2, hk, rfl, rfl⟩
 have h1 := s.many
 have h2 := yox (h + fs.length)
 have h3 : (1 + 1) * 4 ^ (h + fs.length) ≤ l.length + 1 := by rw [hl]; exact h1
 rw [hs, yn3]; omega
def yg2 (W : World) (top : Option Nat) (L : List Item) (q : Nat) (F : List Nat) (e : Ending) (w : World) : Prop :=
 ∃ st g i q' c m' F', e = .returned (.slice (some ⟨q', 0, none⟩) (st.length + 1) c) ∧ WRow w 0 (.slice (some ⟨q', 0, none⟩) (st ++ [(g, i)]).length c) (st ++ [(g, i)]) ∧ (q' = q ∨ W.heap.size ≤ q') ∧ q' ∉ F' ∧ Sto w m' F' ∧ ye3 m' top L st g i ∧ Touch (q :: F) W w ∧ ∀ z ∈ F', z ∈ F ∨ W.heap.size ≤ z
theorem yxd {W : World} {m : NMap} {F : List Nat} {top : Option Nat} {L : List Item} {st : List (Nat × Nat)} {g i q c : Nat} {its : List Item} (hS : Sto W m F) (hR : WRow W 0 (.slice (some ⟨q, 0, none⟩) (st ++ [(g, i)]).length c) (st ++ [(g, i)])) (hq : q ∉ F) (hm : m g = some ⟨its, []⟩) (hL : ye3 m top L st g i) :
  Calls Tryz.prog 204 #[.slice (some ⟨q, 0, none⟩) (st.length + 1) c] W (yg2 W top L q F) := by
 obtain ⟨q', he, k1, k2, k3, k4, k5, k6⟩ := yda hR
 obtain rfl : q = q' := congrArg Addr.block (Option.some.inj he)
 have hfin : yg2 W top L q F (.returned (.slice (some ⟨q, 0, none⟩) (st.length + 1) c)) (W.alloc (.cells #[.pointer (some ⟨g, 0, none⟩), .int .i64 (i : Nat)] 232)) :=
  ⟨st, g, i, q, c, m, F, rfl, hR.alloc _, .inl rfl, hq, hS.new ((Touch.refl _ _).alloc _), hL, (Touch.refl _ _).alloc _, fun z h => .inl h⟩
 have HF := Lib.hid hfin
 have CD : Hid (∀ V, Touch [] W V → Calls Tryz.prog 192 #[.pointer (some ⟨g, 0, none⟩), .int .i64 (i : Nat)] V fun e w => e = .returned (.pointer none) ∧ V = w) := fun V hV => (yei V (hS.new hV) hm (by simp)).1 rfl
 have hcl : st.length + 1 ≤ 9223372036854775807 := Nat.le_trans k5 (Nat.le_trans k6 (by unfold maxLen; omega))
 obtain ⟨sl, hsl⟩ : ∃ sl, st.length = sl := ⟨_, rfl⟩
 rw [hsl] at k1 k2 hcl HF ⊢
 clear hS hR hq hm hL he k3 k4 k5 k6 hsl hfin
 go_enter Tryz.func204, Tryz.ntmps204
 go_wp2_with (go_at_call 192; ((with_reducible refine (CD.out _ ((Touch.refl _ _).alloc _)).mono ?_); rintro e w1 ⟨rfl, rfl⟩))
 go_ret
 exact HF.out
theorem yoy (g i q c n : Nat) (W : World) (c0 : W.cell? ⟨g, 0, none⟩ = some (.slice (some ⟨q, 0, none⟩) n c)) (hi : i < n) :
  Calls Tryz.prog 183 #[.agg #[.pointer (some ⟨g, 0, none⟩), .int .i64 (i : Nat)]] W fun e w' => e = .returned (.pointer (some ⟨q, i * 2, none⟩)) ∧ Below W.heap.size W w' := by
 have hg : g < W.heap.size := block_lt_of_cell c0
 have b2 : (i : Int) < (n : Int) := by omega
 clear hi
 go_enter Tryz.func183, Tryz.ntmps183
 go_wp2
 go_quiet (fail)
 go_wp2
 go_ret
 exact ⟨rfl, below_drewN ((Below.refl _ _).alloc (Nat.le_refl _) _) _⟩
def yfa (w : World) (a : Addr) : Value := (w.cell? a).getD undef
theorem yfx {w : World} {a : Addr} {v : Value} (h : w.cell? a = some v) : w.cell? a = some (yfa w a) := by rw [yfa, h]; rfl
def Held (V : World) (q i : Nat) (A : World → Prop) (w : World) : Prop := Touch [q] V w ∧ w.frozen? ⟨q, i * 2, none⟩ = false ∧ w.frozen? ⟨q, i * 2 + 1, none⟩ = false ∧ w.cell? ⟨q, i * 2, none⟩ = some (yfa w ⟨q, i * 2, none⟩) ∧ w.cell? ⟨q, i * 2 + 1, none⟩ = some (yfa w ⟨q, i * 2 + 1, none⟩) ∧ A w
theorem yxe {V : World} {q i : Nat} {A : World → Prop} {x y : Value} (HSS : ∀ w', Touch [q] V w' → A w') (h0 : V.frozen? ⟨q, i * 2, none⟩ = false) (h1 : V.frozen? ⟨q, i * 2 + 1, none⟩ = false) (h2 : V.cell? ⟨q, i * 2, none⟩ = some x) (h3 : V.cell? ⟨q, i * 2 + 1, none⟩ = some y) : Held V q i A V.drew :=
 ⟨(Touch.refl _ _).drew, h0, h1, yfx h2, yfx h3, HSS _ (Touch.refl _ _).drew⟩
theorem yxf {V : World} {q i : Nat} {A : World → Prop} (HSS : ∀ w', Touch [q] V w' → A w') {w w1 : World} (hb : Below w.heap.size w w1) (h : Held V q i A w) : Held V q i A w1 := by
 obtain ⟨a, b, c, d, e, -⟩ := h
 have t : Touch [q] V w1 := a.trans (Touch.ofBelow (F := []) hb) (by simp)
 have hq : q < w.heap.size := block_lt_of_cell d
 exact ⟨t, (hb.frozen (p := ⟨q, i * 2, none⟩) hq).trans b, (hb.frozen (p := ⟨q, i * 2 + 1, none⟩) hq).trans c, yfx ((hb.cell (p := ⟨q, i * 2, none⟩) hq).trans d), yfx ((hb.cell (p := ⟨q, i * 2 + 1, none⟩) hq).trans e), HSS _ t⟩
theorem yxg {V : World} {q i : Nat} {A : World → Prop} (HSS : ∀ w', Touch [q] V w' → A w') {w : World} (h : Held V q i A w) (u1 u2 : Value) : Held V q i A ((w.setCell ⟨q, i * 2, none⟩ u1).setCell ⟨q, i * 2 + 1, none⟩ u2) := by
 obtain ⟨a, b, c, d, e, -⟩ := h
 have t : Touch [q] V ((w.setCell ⟨q, i * 2, none⟩ u1).setCell ⟨q, i * 2 + 1, none⟩ u2) := (a.set (.inl (by simp)) _).set (.inl (by simp)) _
 refine ⟨t, ?_, ?_, yfx (v := u1) ?_, yfx (v := u2) ?_, HSS _ t⟩
 ·rw [World.frozen?_setCell, World.frozen?_setCell]; exact b
 ·rw [World.frozen?_setCell, World.frozen?_setCell]; exact c
 ·rw [World.cell?_setCell_other _ _ _ _ (by simp)]; exact World.cell?_setCell_same _ _ _ d
 ·have h5 : (w.setCell ⟨q, i * 2, none⟩ u1).cell? ⟨q, i * 2 + 1, none⟩ = some (yfa w ⟨q, i * 2 + 1, none⟩) := by rw [World.cell?_setCell_other _ _ _ _ (by simp)]; exact e
  exact World.cell?_setCell_same _ _ _ h5
theorem yxh (st : List (Nat × Nat)) (g n n' : Nat) : (ya1 (st ++ [(g, n)])).set (st.length * 2 + 1) (.int .i64 (n' : Nat)) = ya1 (st ++ [(g, n')]) := by
 have zl := yim st
 rw [yfw, yfw, List.set_append_right _ _ (by omega), zl, show st.length * 2 + 1 - st.length * 2 = 1 by omega]
 rfl
theorem yxi {W wr : World} {m : NMap} {F : List Nat} {q qA n n' c' g' : Nat} {st' : List (Nat × Nat)} {x y : Value} (hS : Sto W m F) (hq : q ∉ F) (hT : Touch [q] W wr) (hR : WRow wr 0 (.slice (some ⟨qA, 0, none⟩) (st' ++ [(g', n)]).length c') (st' ++ [(g', n)])) (hqA : qA = q ∨ W.heap.size < qA)
  (hqw : q < W.heap.size) (hB : Box2 wr W.heap.size x y) : Touch [q] W (wr.setCell ⟨qA, st'.length * 2 + 1, none⟩ (.int .i64 (n' : Nat))) ∧ Sto (wr.setCell ⟨qA, st'.length * 2 + 1, none⟩ (.int .i64 (n' : Nat))) m F ∧ Box2 (wr.setCell ⟨qA, st'.length * 2 + 1, none⟩ (.int .i64 (n' : Nat))) W.heap.size x y ∧
   WRow (wr.setCell ⟨qA, st'.length * 2 + 1, none⟩ (.int .i64 (n' : Nat))) 0 (.slice (some ⟨qA, 0, none⟩) (st' ++ [(g', n')]).length c') (st' ++ [(g', n')]) := by
 have t1 : Touch [q] W (wr.setCell ⟨qA, st'.length * 2 + 1, none⟩ (.int .i64 (n' : Nat))) := hT.set (by rcases hqA with z | z; exact .inl (by simp [z]); exact .inr (by show W.heap.size ≤ qA; omega)) _
 have hne : qA ≠ W.heap.size := by rcases hqA with z | z <;> omega
 refine ⟨t1, hS.touch t1 (fun z hz e => hq (by simp at e; rw [← e]; exact hz)), hB.touch ((Touch.refl [qA] _).set (.inl (by simp)) _) (by simp; omega), ?_⟩
 have hown : wr.ownsRow 0 232 2 (.slice (some ⟨qA, 0, none⟩) (st' ++ [(g', n)]).length c') (st' ++ [(g', n)]).length (ya1 (st' ++ [(g', n)])) := hR
 obtain ⟨a, -⟩ := hown.stored (st'.length * 2 + 1) (.int .i64 (n' : Nat))
 rw [yxh] at a
 have e : (st' ++ [(g', n')]).length = (st' ++ [(g', n)]).length := by simp
 show World.ownsRow _ _ _ _ _ _ _
 rw [e]; exact a
theorem yxj {V w1 w2 : World} (h2 : Below w1.heap.size w1 w2) (h1 : Below V.drew.heap.size V.drew w1) : Touch [] V w2 := ((Touch.refl [] V).drew.trans (Touch.ofBelow (F := []) h1) (by simp)).trans (Touch.ofBelow (F := []) h2) (by simp)
theorem yxk {W V w9 : World} {m : NMap} {F : List Nat} {top : Option Nat} {L : List Item} {q qA qq g g' i n' c' : Nat} {st' : List (Nat × Nat)} {p : Item} {its2 : List Item} {ps2 : List Nat} (T1 : Touch [q] W V) (hS : Sto W m F) (T4 : WRow V 0 (.slice (some ⟨qA, 0, none⟩) (st' ++ [(g', n')]).length c') (st' ++ [(g', n')])) (hb : Touch [] V w9)
  (hqA : qA = q ∨ W.heap.size < qA) (hqF : q ∉ F) (HFIN : ∀ m' : NMap, m' g = some ⟨its2.set i p, ps2⟩ → (∀ z, z ≠ g → m' z = m z) → ye3 m' top L st' g' n')
  (H9 : ∀ (W2 : World) (k v : ByteArray), Touch [] V W2 → ∃ F', Sto ((W2.setCell ⟨qq, i * 2, none⟩ (.string k)).setCell ⟨qq, i * 2 + 1, none⟩ (.string v)) (upd m g ⟨its2.set i (k, v), ps2⟩) F' ∧ Stp W2 F ((W2.setCell ⟨qq, i * 2, none⟩ (.string k)).setCell ⟨qq, i * 2 + 1, none⟩ (.string v)) F') :
  yg2 W top L q F (.returned (.slice (some ⟨qA, 0, none⟩) (st'.length + 1) c')) ((w9.setCell ⟨qq, i * 2, none⟩ (.string p.1)).setCell ⟨qq, i * 2 + 1, none⟩ (.string p.2)) := by
 obtain ⟨F', hS', hP1, hP2⟩ := H9 w9 p.1 p.2 hb
 have hqAF : qA ∉ F := fun e => by
  rcases hqA with z | z
  ·exact hqF (z ▸ e)
  ·have := hS.lt qA e; omega
 have hqV : qA < V.heap.size := (T4.lt qA rfl).2
 have hVw := hb.size
 have hWV := T1.size
 have tW : Touch [q] W w9 := T1.trans hb (by simp)
 refine ⟨st', g', n', qA, c', _, F', rfl, hP1.row (hb.row T4 (by simp)) (fun z e => by rw [← Option.some.inj e]; exact hqAF), by rcases hqA with z | z; exact .inl z; exact .inr (by omega), fun e => ?_, hS', HFIN _ (upd_same m g _) (fun z hz => ya3 m _ hz), ?_, fun z hz => ?_⟩
 ·rcases hP2 qA e with z | z
  ·exact hqAF z
  ·omega
 ·exact (tW.mono (by simp)).trans (hP1.mono (fun z hz => List.mem_cons_of_mem q hz)) (fun z hz => .inl hz)
 ·rcases hP2 z hz with h | h
  ·exact .inl h
  ·exact .inr (by omega)
def yoz (W : World) (m : NMap) (top : Option Nat) (L : List Item) (q g0 i0 : Nat) (wx : World) (steps : List (Nat × Nat)) (A : Option Addr) (c : Nat) (p : Value) (gh : Nat) : Prop :=
 WRow wx 0 (.slice A steps.length c) steps ∧ (∀ z, (Value.slice A steps.length c).ownBlock = some z → z = q ∨ W.heap.size < z) ∧ Touch [q] W wx ∧ steps.length + gh ≤ 1000 ∧
  ((∃ r h, p = .pointer (some ⟨r, 0, none⟩) ∧ yeh m top L steps g0 i0 r h ∧ h + 2 ≤ gh) ∨ (p = .pointer none ∧ 1 ≤ gh ∧ ∃ st g n, steps = st ++ [(g, n + 1)] ∧ ykm m top L st g0 i0 g n))
theorem yo0 {W V : World} {v v' : Value} {q : Nat} (hA : ∀ z, v.ownBlock = some z → z = q ∨ W.heap.size < z) (hs : yax V v v') (hV : W.heap.size + 1 ≤ V.heap.size) : ∀ z, v'.ownBlock = some z → z = q ∨ W.heap.size < z := fun z e => by
 rcases hs z e with h | h
 ·exact hA z h
 ·exact .inr (by omega)
theorem yo1 {W : World} {v : Value} {q : Nat} (hA : ∀ z, v.ownBlock = some z → z = q ∨ W.heap.size < z) : ∀ k, v.ownBlock = some k → k ∈ [q] ∨ W.heap.size ≤ k := fun k e => by
 rcases hA k e with h | h
 ·exact .inl (by simp [h])
 ·exact .inr (by omega)
theorem yo2 {W : World} {v : Value} {q : Nat} {o : Obj} (hA : ∀ z, v.ownBlock = some z → z = q ∨ W.heap.size < z) : ∀ k, v.ownBlock = some k → k ∈ [q] ∨ (W.alloc o).heap.size ≤ k := fun k e => by
 rcases hA k e with h | h
 ·exact .inl (by simp [h])
 ·exact .inr (by simp; omega)
theorem yo3 {W : World} {v : Value} {q r : Nat} (hA : ∀ z, v.ownBlock = some z → z = q ∨ W.heap.size < z) (h1 : r < W.heap.size) (h2 : r ≠ q) : some r ≠ v.ownBlock := fun e => by
 rcases hA r e.symm with h | h
 ·exact h2 h
 ·omega
theorem yxl {W : World} {m : NMap} {F : List Nat} {top : Option Nat} {L : List Item} {st : List (Nat × Nat)} {g i q c r h : Nat} {its : List Item} {ps : List Nat} (hS : Sto W m F) (hR : WRow W 0 (.slice (some ⟨q, 0, none⟩) (st ++ [(g, i)]).length c) (st ++ [(g, i)])) (hq : q ∉ F) (hm : m g = some ⟨its, ps⟩) (hps : ps.length ≤ 1000) (hr : ps[i]? = some r) (hL : yeh m top L (st ++ [(g, i)]) g i r h) (hlen : L.length ≤ 300) (hst : st.length ≤ 300) :
  Calls Tryz.prog 204 #[.slice (some ⟨q, 0, none⟩) (st.length + 1) c] W (yg2 W top L q F) := by
 obtain ⟨q', he, k1, k2, k3, k4, k5, k6⟩ := yda hR
 obtain rfl : q = q' := congrArg Addr.block (Option.some.inj he)
 have hh := hL.high
 obtain ⟨i0, hi0, hz0, hs0, hb0⟩ := yoi
 have hstart : yoz W m top L q g i (W.alloc (.cells #[.pointer (some ⟨g, 0, none⟩), .int .i64 (i : Nat)] 232)) (st ++ [(g, i)]) (some ⟨q, 0, none⟩) c (.pointer (some ⟨r, 0, none⟩)) (h + 2) :=
  ⟨hR.alloc _, fun z e => .inl (Option.some.inj e).symm, (Touch.refl _ _).alloc _, by simp; omega, .inl ⟨r, h, rfl, hL, by omega⟩⟩
 have HST := Lib.hid hstart
 have CD : Hid (∀ V, Touch [] W V → Calls Tryz.prog 192 #[.pointer (some ⟨g, 0, none⟩), .int .i64 (i : Nat)] V fun e w => e = .returned (.pointer (some ⟨r, 0, none⟩)) ∧ V = w) := fun V hV => (yei V (hS.new hV) hm (by omega)).2 r hr
 have hcl : st.length + 1 ≤ 9223372036854775807 := Nat.le_trans k5 (Nat.le_trans k6 (by unfold maxLen; omega))
 have HS := Lib.hid hS
 have HQ := Lib.hid hq
 have heb : Box2 (W.alloc (.cells #[.pointer (some ⟨g, 0, none⟩), .int .i64 (i : Nat)] 232)) W.heap.size (.pointer (some ⟨g, 0, none⟩)) (.int .i64 (i : Nat)) := Box2.fresh _ _ _ _
 have HEB := Lib.hid heb
 have hqw : q < W.heap.size := k4
 have hl1 : (st ++ [(g, i)]).length = st.length + 1 := by simp
 obtain ⟨steps0, hsteps0⟩ : ∃ steps0, st ++ [(g, i)] = steps0 := ⟨_, rfl⟩
 rw [hsteps0] at HST hl1
 obtain ⟨sl, hsl⟩ : ∃ sl, st.length = sl := ⟨_, rfl⟩
 rw [hsl] at k1 k2 hcl hl1 ⊢
 have HL1 := Lib.hid hl1
 clear hS hR hq hm hr hL he k3 k5 k6 hsl hsteps0 hstart heb hl1 hlen hst hh hps
 go_enter Tryz.func204, Tryz.ntmps204
 go_wp2_with (go_at_call 192; ((with_reducible refine (CD.out _ ((Touch.refl _ _).alloc _)).mono ?_); rintro e w1 ⟨rfl, rfl⟩))
 go_loopg [0, 4] (h + 2) (fun gh s0 s4 wx => ∃ steps A c, s0 = .slice A steps.length c ∧ Hid (yoz W m top L q g i wx steps A c s4 gh) ∧ Hid (Touch [q] (W.alloc (.cells #[.pointer (some ⟨g, 0, none⟩), .int .i64 (i : Nat)] 232)) wx))
 case atStart => exact ⟨steps0, some ⟨q, 0, none⟩, c, by rw [HL1.out], HST.out, Touch.refl _ _⟩
 case round =>
  obtain ⟨steps, A, c', rfl, HA, HT⟩ := hrel
  obtain ⟨hR, hA, hTW, hgl, ⟨r', h', rfl, hsp, hgh⟩ | ⟨rfl, hgh, st', g', n', rfl, hbot⟩⟩ := HA.out
  ·
   obtain ⟨its', ps', e1, e2, e3, e4, e5, e6⟩ := hsp.step
   have HRW := Lib.hid hR
   have HOA := Lib.hid hA
   have HTW := Lib.hid hTW
   have hSr : Sto wr m F := HS.out.touch hTW (fun z hz e => HQ.out (by simp at e; rw [← e]; exact hz))
   have hrW : r' < W.heap.size := HS.out.lt r' (HS.out.mem e1)
   have hrq : r' ≠ q := fun e => HQ.out (e ▸ HS.out.mem e1)
   have hrr : r' < wr.heap.size := Nat.lt_of_lt_of_le hrW hTW.size
   obtain ⟨nn, hnn⟩ : ∃ nn, its'.length = nn := ⟨_, rfl⟩
   obtain ⟨C, e9, hC⟩ : ∃ C e, wr.cell? ⟨r', 0, none⟩ = some (.slice C nn e) := by
    obtain ⟨v, u, hN, -, -⟩ := hSr.at e1
    have hN : NdX wr r' its' ps' v u := hN
    obtain ⟨C, e, rfl⟩ := yav hN.r0
    exact ⟨C, e, by rw [← hnn]; exact hN.c0⟩
   have hnn1 : 1 ≤ nn := by omega
   have hnn6 : nn ≤ 6 := by omega
   have hgl' : steps.length + gk ≤ 1000 := hgl
   have hsz := hTW.size
   have hsz1 : W.heap.size + 1 ≤ wr.heap.size := by have := HT.out.size; simpa using this
   rcases e4 with hp | hp
   ·have CDN : Hid (∀ V, Touch [q] W V → Calls Tryz.prog 192 #[.pointer (some ⟨r', 0, none⟩), .int .i64 (nn : Nat)] V fun e w => e = .returned (.pointer none) ∧ V = w) := fun V hV => (yei V (HS.out.touch hV (fun z hz e => HQ.out (by simp at e; rw [← e]; exact hz))) e1 (by rw [hp]; simp)).1 hp
    have HBT : Hid (∃ s2 g2 n2, steps ++ [(r', nn)] = s2 ++ [(g2, n2 + 1)] ∧ ykm m top L s2 g i g2 n2) := ⟨steps, r', nn - 1, by rw [show nn - 1 + 1 = nn by omega], by rw [← hnn]; exact e5 hp⟩
    clear e1 e2 e3 e5 e6 hsp HA hR hA hTW hSr hp hnn hgl
    go_wp2_with (first
     | (at_builtin; go_must (refine yc4 rfl (.tmp 29) (.tmp 37) 227 rfl 0 232 i0 (.agg #[.pointer none, .int .i64 0]) 2 16 Tryz.underlying227 hi0 hz0 hs0 hb0 rfl (by decide) (.slice A steps.length c') steps.length (ya1 steps) rfl (HRW.out.alloc _) (.slice (some ⟨wr.heap.size, 0, none⟩) 1 1) 1 (ya1 [(r', nn)]) rfl (ye7 _ _ r' _ nn rfl (heap_alloc_new _ _)) (ye4 _) (by unfold maxLen; omega) (by omega) (Nat.zero_le _) ?_); intro A2 c2 w4 ho4 hg4 hs4; have HO4 := Lib.hid (ye5 HRW.out ho4 rfl); have HA4 := Lib.hid (yo0 HOA.out hs4 (Nat.le_trans hsz1 ((Touch.refl [] wr).alloc _).size)); have HT4 := Lib.hid ((HTW.out.alloc _).grown hg4 (yo1 HOA.out)); have HT5 := Lib.hid ((HT.out.alloc _).grown hg4 (yo2 HOA.out)); have fp4 := hg4.cell (a := ⟨r', 0, none⟩) (v := .slice C nn e9) (by go_simp) (yo3 HOA.out hrW hrq); clear ho4 hg4 hs4)
     | (go_at_call 192; ((with_reducible refine (CDN.out _ HT4.out).mono ?_); rintro e w5 ⟨rfl, rfl⟩)))
    go_roundg (gk - 1)
    case measure => omega
    case rel => exact ⟨steps ++ [(r', nn)], A2, c2, by rw [List.length_append]; rfl, ⟨ye6 HO4.out, by rw [List.length_append]; exact HA4.out, HT4.out, by simp; omega, .inr ⟨rfl, by omega, HBT.out⟩⟩, HT5.out⟩
   ·obtain ⟨r2, hr2⟩ : ∃ r2, ps'[nn]? = some r2 := ⟨ps'[nn]'(by omega), List.getElem?_eq_getElem _⟩
    have CDN : Hid (∀ V, Touch [q] W V → Calls Tryz.prog 192 #[.pointer (some ⟨r', 0, none⟩), .int .i64 (nn : Nat)] V fun e w => e = .returned (.pointer (some ⟨r2, 0, none⟩)) ∧ V = w) := fun V hV => (yei V (HS.out.touch hV (fun z hz e => HQ.out (by simp at e; rw [← e]; exact hz))) e1 (by omega)).2 r2 hr2
    obtain ⟨hh1, hsp2⟩ := e6 r2 (by rw [hnn]; exact hr2)
    have HSP := Lib.hid hsp2
    clear e1 e2 e3 e5 e6 hsp HA hR hA hTW hSr hp hgl hsp2 hr2
    have HNN := Lib.hid hnn
    clear hnn
    go_wp2_with (first
     | (at_builtin; go_must (refine yc4 rfl (.tmp 29) (.tmp 37) 227 rfl 0 232 i0 (.agg #[.pointer none, .int .i64 0]) 2 16 Tryz.underlying227 hi0 hz0 hs0 hb0 rfl (by decide) (.slice A steps.length c') steps.length (ya1 steps) rfl (HRW.out.alloc _) (.slice (some ⟨wr.heap.size, 0, none⟩) 1 1) 1 (ya1 [(r', nn)]) rfl (ye7 _ _ r' _ nn rfl (heap_alloc_new _ _)) (ye4 _) (by unfold maxLen; omega) (by omega) (Nat.zero_le _) ?_); intro A2 c2 w4 ho4 hg4 hs4; have HO4 := Lib.hid (ye5 HRW.out ho4 rfl); have HA4 := Lib.hid (yo0 HOA.out hs4 (Nat.le_trans hsz1 ((Touch.refl [] wr).alloc _).size)); have HT4 := Lib.hid ((HTW.out.alloc _).grown hg4 (yo1 HOA.out)); have HT5 := Lib.hid ((HT.out.alloc _).grown hg4 (yo2 HOA.out)); have fp4 := hg4.cell (a := ⟨r', 0, none⟩) (v := .slice C nn e9) (by go_simp) (yo3 HOA.out hrW hrq); clear ho4 hg4 hs4)
     | (go_at_call 192; ((with_reducible refine (CDN.out _ HT4.out).mono ?_); rintro e w5 ⟨rfl, rfl⟩)))
    go_roundg (gk - 1)
    case measure => omega
    case rel => exact ⟨steps ++ [(r', nn)], A2, c2, by rw [List.length_append]; rfl, ⟨ye6 HO4.out, by rw [List.length_append]; exact HA4.out, HT4.out, by simp; omega, .inl ⟨r2, h' - 1, rfl, by rw [← HNN.out]; exact HSP.out, by omega⟩⟩, HT5.out⟩
  ·
   obtain ⟨its0, p, its2, ps2, m1, m2, m3, m4, m5, m6, m7, hfin⟩ := hbot
   obtain ⟨qA, rfl, l1, l2, -, l4, l5, l6⟩ := yda hR
   have hqA := hA qA rfl
   have hqAF : qA ∉ F := fun e => by
    rcases hqA with z | z
    ·exact HQ.out (z ▸ e)
    ·have := HS.out.lt qA e; omega
   have hqAW : qA ≠ W.heap.size := by rcases hqA with z | z <;> omega
   have hgl' : (st' ++ [(g', n' + 1)]).length + gk ≤ 1000 := hgl
   have hl2 : (st' ++ [(g', n' + 1)]).length = st'.length + 1 := by simp
   obtain ⟨t1, t2, t3, t4⟩ := yxi (n' := n') HS.out HQ.out hTW hR hqA hqw (HEB.out.touch HT.out (by simp; omega))
   obtain ⟨x2, hx2⟩ : ∃ x2, its2[i]? = some x2 := ⟨its2[i], List.getElem?_eq_getElem m6⟩
   have hp2 : (its0 ++ [p])[n']? = some p := by rw [← m2]; simp
   obtain ⟨q', he', u1, u2, -, u4, u5, u6⟩ := yda t4
   obtain rfl : qA = q' := congrArg Addr.block (Option.some.inj he')
   obtain ⟨V, hV⟩ : ∃ V, wr.setCell ⟨qA, st'.length * 2 + 1, none⟩ (.int .i64 (n' : Nat)) = V := ⟨_, rfl⟩
   rw [hV] at t1 t2 t3 t4 u1 u2 u4
   obtain ⟨q1, a1, a2, a3, a4, a5, a6, -, ⟨v1, w1, a7, a8⟩, -, a9⟩ := ykr V t2 m4 hx2
   obtain ⟨q2, b1, b2, b3, b4, -, -, -, ⟨v2, w2, b7, b8⟩, -⟩ := ykr V t2 m1 hp2
   have hq12 : q2 ≠ q1 := fun e => (t2.apart m1 m4 m7 b7 a7).2 q2 (ybb.2 (.inl b8)) (ybb.2 (.inl (by rw [e]; exact a8)))
   have hgq1 : g ≠ q1 := fun e => a7.n0 q1 a8 e.symm
   have hgq2 : g' ≠ q1 := fun e => (t2.apart m4 m1 (fun e => m7 e.symm) a7 b7).1 (ybb.2 (.inl (by rw [e]; exact a8)))
   obtain ⟨qq, cc1, e1, -, -⟩ := ybs a7.r0 (by omega)
   subst e1
   obtain rfl : qq = q1 := Option.some.inj a8
   obtain ⟨qq2, cc2, e2, -, -⟩ := ybs b7.r0 (by simp)
   subst e2
   obtain rfl : qq2 = q2 := Option.some.inj b8
   have d0 := a7.c0
   have d1 := b7.c0
   have dl : (its0 ++ [p]).length = n' + 1 := by rw [List.length_append, m2]; rfl
   obtain ⟨ln, hln⟩ : ∃ ln, its2.length = ln := ⟨_, rfl⟩
   rw [hln] at d0
   rw [dl] at d1
   have hiln : i < ln := by omega
   have l7 : wr.frozen? ⟨qA, st'.length * 2 + 1, none⟩ = false := (show wr.ownsRow 0 232 2 (.slice (some ⟨qA, 0, none⟩) (st' ++ [(g', n' + 1)]).length c') (st' ++ [(g', n' + 1)]).length (ya1 (st' ++ [(g', n' + 1)])) from hR).frozenAt _
   have hqqF : qq ∈ F := a2
   have hWs : W.heap.size < V.heap.size := t3.lt
   have HSS : Hid (∀ w', Touch [qq] V w' → w'.cell? ⟨W.heap.size, 0, none⟩ = some (.pointer (some ⟨g, 0, none⟩)) ∧ w'.cell? ⟨W.heap.size, 1, none⟩ = some (.int .i64 (i : Nat)) ∧ w'.cell? ⟨qA, st'.length * 2, none⟩ = some (.pointer (some ⟨g', 0, none⟩)) ∧ w'.cell? ⟨qA, st'.length * 2 + 1, none⟩ = some (.int .i64 (n' : Nat)) ∧
     w'.cell? ⟨qq2, n' * 2, none⟩ = some (.string p.1) ∧ w'.cell? ⟨qq2, n' * 2 + 1, none⟩ = some (.string p.2) ∧ w'.cell? ⟨g, 0, none⟩ = some (.slice (some ⟨qq, 0, none⟩) ln cc1) ∧ w'.cell? ⟨g', 0, none⟩ = some (.slice (some ⟨qq2, 0, none⟩) (n' + 1) cc2)) := fun w' hT =>
    have hk : ∀ (b o : Nat), b < V.heap.size → b ≠ qq → w'.cell? ⟨b, o, none⟩ = V.cell? ⟨b, o, none⟩ := fun b o h1 h2 => hT.cell (p := ⟨b, o, none⟩) h1 (by simpa using h2)
    have hAq : qA ≠ qq := fun e => hqAF (e ▸ hqqF)
    have hsq : W.heap.size ≠ qq := fun e => by have := HS.out.lt qq hqqF; omega
    ⟨(hk _ _ hWs hsq).trans t3.c0, (hk _ _ hWs hsq).trans t3.c1, (hk _ _ u4 hAq).trans u1, (hk _ _ u4 hAq).trans u2, (hk _ _ b1 hq12).trans b3, (hk _ _ b1 hq12).trans b4, (hk _ _ (block_lt_of_cell d0) hgq1).trans d0, (hk _ _ (block_lt_of_cell d1) hgq2).trans d1⟩
   have HST' : Hid (V.frozen? ⟨qq, i * 2, none⟩ = false ∧ V.frozen? ⟨qq, i * 2 + 1, none⟩ = false ∧ V.cell? ⟨qq, i * 2, none⟩ = some (.string x2.1) ∧ V.cell? ⟨qq, i * 2 + 1, none⟩ = some (.string x2.2)) := ⟨a5, a6, a3, a4⟩
   have CI1 : Hid (∀ (P : Prop) (w' : World), Touch [qq] V w' ∧ P → Calls Tryz.prog 183 #[.agg #[.pointer (some ⟨g, 0, none⟩), .int .i64 (i : Nat)]] w' fun e w9 => e = .returned (.pointer (some ⟨qq, i * 2, none⟩)) ∧ Below w'.heap.size w' w9) := fun P w' hP => yoy g i qq cc1 ln _ (HSS.out _ hP.1).2.2.2.2.2.2.1 hiln
   have CI2 : Hid (∀ (P : Prop) (w' : World), Touch [qq] V w' ∧ P → Calls Tryz.prog 183 #[.agg #[.pointer (some ⟨g', 0, none⟩), .int .i64 (n' : Nat)]] w' fun e w9 => e = .returned (.pointer (some ⟨qq2, n' * 2, none⟩)) ∧ Below w'.heap.size w' w9) := fun P w' hP => yoy g' n' qq2 cc2 (n' + 1) _ (HSS.out _ hP.1).2.2.2.2.2.2.2 (Nat.lt_succ_self _)
   have HQA := Lib.hid hqA
   have T1 := Lib.hid t1
   have T4 := Lib.hid t4
   have HFIN := Lib.hid hfin
   have H9 := Lib.hid a9
   have hw : wrap64 ((n' : Nat) : Int) = ((n' : Nat) : Int) := by unfold wrap64; omega
   clear hfin CD HEB HST HL1 t1 t2 t3 t4 a7 a8 b7 b8 a9 a3 a4 a5 a6 b3 b4 u1 u2 m1 m2 m3 m4 m7 hx2 hp2 a1 b1 hqA hTW hR hA a2 b2 d0 d1 he' hqAF hqAW hq12 hgq1 hgq2 hln m5 m6 k1 k2
   go_upto_region 10 with fail
   try rw [hw]
   try rw [hV]
   go_region_held3 (fun w' => Touch [qq] V w' ∧ w'.frozen? ⟨qq, i * 2, none⟩ = false ∧ w'.frozen? ⟨qq, i * 2 + 1, none⟩ = false ∧ w'.cell? ⟨qq, i * 2, none⟩ = some (yfa w' ⟨qq, i * 2, none⟩) ∧ w'.cell? ⟨qq, i * 2 + 1, none⟩ = some (yfa w' ⟨qq, i * 2 + 1, none⟩) ∧ w'.cell? ⟨W.heap.size, 0, none⟩ = some (.pointer (some ⟨g, 0, none⟩)) ∧ w'.cell? ⟨W.heap.size, 1, none⟩ = some (.int .i64 (i : Nat)) ∧ w'.cell? ⟨qA, st'.length * 2, none⟩ = some (.pointer (some ⟨g', 0, none⟩)) ∧ w'.cell? ⟨qA, st'.length * 2 + 1, none⟩ = some (.int .i64 (n' : Nat)) ∧ w'.cell? ⟨qq2, n' * 2, none⟩ = some (.string p.1) ∧ w'.cell? ⟨qq2, n' * 2 + 1, none⟩ = some (.string p.2) ∧ w'.cell? ⟨g, 0, none⟩ = some (.slice (some ⟨qq, 0, none⟩) ln cc1) ∧ w'.cell? ⟨g', 0, none⟩ = some (.slice (some ⟨qq2, 0, none⟩) (n' + 1) cc2)) ((first | assumption | exact yxe HSS.out HST'.out.1 HST'.out.2.1 HST'.out.2.2.1 HST'.out.2.2.2 | exact yxf HSS.out (by assumption) (by assumption) | exact yxg HSS.out (by assumption) _ _))
    (first | (go_at_call 183; (with_reducible refine (CI1.out _ _ (by assumption)).mono ?_); rintro e w9 ⟨rfl, hb9⟩) | (go_at_call 183; (with_reducible refine (CI2.out _ _ (by assumption)).mono ?_); rintro e w9 ⟨rfl, hb9⟩))
   go_wp2
   go_ret
   exact yxk T1.out HS.out T4.out (yxj hb9 (by assumption)) HQA.out HQ.out HFIN.out H9.out
theorem yxm {W : World} {m : NMap} {F : List Nat} {top : Option Nat} {l : List Item} {k u : ByteArray} {st : List (Nat × Nat)} {g i q c : Nat} (hS : Sto W m F) (hR : WRow W 0 (.slice (some ⟨q, 0, none⟩) (st ++ [(g, i)]).length c) (st ++ [(g, i)])) (hq : q ∉ F) (hf : Found m top l k u st g i) (hlen : l.length ≤ 300) :
  Calls Tryz.prog 204 #[.slice (some ⟨q, 0, none⟩) (st.length + 1) c] W (yg2 W top (delN l k) q F) := by
 have hs := hf.short
 obtain ⟨its, ps, e1, e2, e3, e4, e5, e6⟩ := hf.lower
 have hd : (delN l k).length ≤ l.length := by
  have := ylr l k
  split at this <;> omega
 rcases e4 with rfl | hp
 ·exact yxd hS hR hq e1 (e5 rfl)
 ·obtain ⟨r, hr⟩ : ∃ r, ps[i]? = some r := ⟨ps[i]'(by omega), List.getElem?_eq_getElem _⟩
  obtain ⟨h, hsp⟩ := e6 r hr
  exact yxl hS hR hq e1 (by omega) hr hsp (by omega) (by omega)
def yip (W : World) (gs q : Nat) (F : List Nat) (n most : Int) (L : List Item) (e : Ending) (w : World) : Prop :=
 e = .returned (.tuple #[]) ∧ ∃ top m F', ShX w gs top n most ∧ Sto w m F' ∧ gs ∉ F' ∧ ybu m top L ∧ Touch (q :: gs :: F) W w ∧ ∀ z ∈ F', z ∈ F ∨ W.heap.size ≤ z
def yg3 (W : World) (gs q : Nat) (F1 : List Nat) (top : Option Nat) (n most : Int) (L : List Item) (qA c : Nat) (wx : World) (st : List (Nat × Nat)) : Prop :=
 ∃ m F g i, ShX wx gs top n most ∧ Sto wx m F ∧ gs ∉ F ∧ qA ∉ F ∧ qA ≠ gs ∧ Sunk m top L st ∧ WRow wx 0 (.slice (some ⟨qA, 0, none⟩) (st ++ [(g, i)]).length c) (st ++ [(g, i)]) ∧ Touch (q :: gs :: F1) W wx ∧ ∀ z ∈ F, z ∈ F1 ∨ W.heap.size ≤ z
theorem yxn {W V w1 w2 : World} {gs q qA cA g1 i1 : Nat} {F1 F2 F3 : List Nat} {top : Option Nat} {n most : Int} {L : List Item} {m2 : NMap} {o : Obj} {st : List (Nat × Nat)} (hT : Touch [gs] W V) (hX : ShX V gs top n most) (hg : gs ∉ F1) (hqg : q ≠ gs)
  (r1 : WRow w1 0 (.slice (some ⟨qA, 0, none⟩) (st ++ [(g1, i1)]).length cA) (st ++ [(g1, i1)])) (r2 : qA = q ∨ V.heap.size ≤ qA) (r3 : qA ∉ F2) (r6 : Touch (q :: F1) V w1) (r7 : ∀ z ∈ F2, z ∈ F1 ∨ V.heap.size ≤ z)
  (hS2 : Sto w2 m2 F3) (hP2 : Stp (w1.alloc o) F2 w2 F3) (hsk : Sunk m2 top L st) : yg3 W gs q F1 top n most L qA cA w2 st := by
 have hgl := hX.lt
 have hVW := hT.size
 have h1V := r6.size
 have hz : (w1.alloc o).heap.size = w1.heap.size + 1 := by simp
 have hg2 : gs ∉ F2 := fun e => by
  rcases r7 gs e with z | z
  ·exact hg z
  ·omega
 have hqw : qA < w1.heap.size := (r1.lt qA rfl).2
 have x1 := (hX.touch r6 (by simp [hg]; exact fun e => hqg e.symm)).touch ((Touch.refl [] w1).alloc o) (by simp)
 refine ⟨m2, F3, g1, i1, x1.touch hP2.1 hg2, hS2, yg1 hP2 (by omega) hg2, yg1 hP2 (by omega) r3, ?_, hsk, hP2.1.row (r1.alloc o) (fun z e => by rw [← Option.some.inj e]; exact r3), ?_, fun z hz2 => ?_⟩
 ·rcases r2 with z | z
  ·rw [z]; exact hqg
  ·omega
 ·have a : Touch (q :: gs :: F1) W w1 := (hT.mono (by simp)).trans r6 (fun z hz => by
   rcases List.mem_cons.1 hz with e | e
   ·exact .inl (by rw [e]; simp)
   ·exact .inl (by simp [e]))
  exact (a.alloc o).trans hP2.1 (fun z hz => by
   rcases r7 z hz with e | e
   ·exact .inl (by simp [e])
   ·exact .inr (by omega))
 ·rcases hP2.2 z hz2 with e | e
  ·rcases r7 z e with e | e
   ·exact .inl e
   ·exact .inr (by omega)
  ·exact .inr (by omega)
theorem yxo {W wx w2 : World} {gs q qA c g i : Nat} {F1 F F2 : List Nat} {top : Option Nat} {n most : Int} {L : List Item} {m2 : NMap} {o : Obj} {st : List (Nat × Nat)} (hX : ShX wx gs top n most) (hg : gs ∉ F) (hqA : qA ∉ F) (hqg : qA ≠ gs)
  (hR : WRow wx 0 (.slice (some ⟨qA, 0, none⟩) (st ++ [(g, i)]).length c) (st ++ [(g, i)])) (hT : Touch (q :: gs :: F1) W wx) (hF : ∀ z ∈ F, z ∈ F1 ∨ W.heap.size ≤ z)
  (hS2 : Sto w2 m2 F2) (hP2 : Stp (wx.alloc o) F w2 F2) (hsk : Sunk m2 top L st) : yg3 W gs q F1 top n most L qA c w2 st := by
 have hgl := hX.lt
 have hVW := hT.size
 have hz : (wx.alloc o).heap.size = wx.heap.size + 1 := by simp
 have hqw : qA < wx.heap.size := (hR.lt qA rfl).2
 have x1 := hX.touch ((Touch.refl [] wx).alloc o) (by simp)
 refine ⟨m2, F2, g, i, x1.touch hP2.1 hg, hS2, yg1 hP2 (by omega) hg, yg1 hP2 (by omega) hqA, hqg, hsk, hP2.1.row (hR.alloc o) (fun z e => by rw [← Option.some.inj e]; exact hqA), ?_, fun z hz2 => ?_⟩
 ·exact (hT.alloc o).trans hP2.1 (fun z hz => by
   rcases hF z hz with e | e
   ·exact .inl (by simp [e])
   ·exact .inr e)
 ·rcases hP2.2 z hz2 with e | e
  ·exact hF z e
  ·exact .inr (by omega)
theorem take_set {W wx : World} {gs q : Nat} {F1 F : List Nat} {top top' : Option Nat} {n most : Int} {L : List Item} {m : NMap} (hX : ShX wx gs top n most) (hS : Sto wx m F) (hg : gs ∉ F) (hT : Touch (q :: gs :: F1) W wx) (hF : ∀ z ∈ F, z ∈ F1 ∨ W.heap.size ≤ z) (hTr : ybu m top' L) {v : Value} (hv : ybq top' = v) :
  yip W gs q F1 n most L (.returned (.tuple #[])) (wx.setCell ⟨gs, 0, none⟩ v) := by
 subst hv
 exact ⟨rfl, top', m, F, hX.set0, hS.touch ((Touch.refl [gs] _).set (.inl (by simp)) _) (fun z hz e => hg (by simp at e; rw [← e]; exact hz)), hg, hTr, hT.set (.inl (by simp)) _, hF⟩
theorem yxp {m : NMap} {F : List Nat} {top : Option Nat} {L : List Item} {st : List (Nat × Nat)} {g i : Nat} (H : Sunk m top L (st ++ [(g, i)])) : ∀ V, Sto V m F → Calls Tryz.prog 206 #[ptr g, .int .i64 (i : Nat)] V fun e w => e = .returned (.tuple #[]) ∧ ∃ m' F', Sto w m' F' ∧ Stp V F w F' ∧ Sunk m' top L st := by
 obtain ⟨f, c, h, rfl, rfl, hk, s, nd, h1, h6, hfin⟩ := H.mend
 exact fun V hV => (ywf V hV hk s nd h1 h6).mono (fun e w hw => hfin V F e w hV hw)
theorem yxq (W : World) {gs q c0 g i : Nat} {top : Option Nat} {n most : Int} {m : NMap} {F1 : List Nat} {l : List Item} {k u : ByteArray} {st : List (Nat × Nat)} (hX : ShX W gs top n most) (hS : Sto W m F1) (hgs : gs ∉ F1) (hn : 1 ≤ n) (hn2 : n ≤ 1000) (hf : Found m top l k u st g i) (hlen : l.length ≤ 300)
  (hR : WRow W 0 (.slice (some ⟨q, 0, none⟩) (st ++ [(g, i)]).length c0) (st ++ [(g, i)])) (hq : q ∉ F1) (hqg : q ≠ gs) :
  Calls Tryz.prog 185 #[.pointer (some ⟨gs, 0, none⟩), .slice (some ⟨q, 0, none⟩) (st.length + 1) c0] W (yip W gs q F1 (n - 1) most (delN l k)) := by
 have c1 := hX.c1
 have f1 := hX.f1
 have hg := hX.lt
 have hb1 : -9223372036854775808 ≤ n - 1 := by omega
 have hb2 : n - 1 ≤ 9223372036854775807 := by omega
 obtain ⟨V, hV⟩ : ∃ V, W.setCell ⟨gs, 1, none⟩ (.int .i64 (n - 1)) = V := ⟨_, rfl⟩
 have t1 : Touch [gs] W V := by rw [← hV]; exact (Touch.refl _ _).set (.inl (by simp)) _
 have hX1 : ShX V gs top (n - 1) most := by rw [← hV]; exact hX.set1
 have hS1 : Sto V m F1 := hS.touch t1 (fun z hz e => hgs (by simp at e; rw [← e]; exact hz))
 have hR1 : WRow V 0 (.slice (some ⟨q, 0, none⟩) (st ++ [(g, i)]).length c0) (st ++ [(g, i)]) := t1.row hR (fun z e => by rw [← Option.some.inj e]; simpa using hqg)
 have CL := Lib.hid (yxm hS1 hR1 hq hf hlen)
 have HX := Lib.hid hX1
 have HG := Lib.hid hgs
 have HT := Lib.hid t1
 have HR := Lib.hid hR1
 have HQG := Lib.hid hqg
 clear hX hX1 hS hS1 hgs hn hn2 hf hlen hR hR1 hq hqg t1
 go_enter Tryz.func185, Tryz.ntmps185
 go_wp2_with (first
  | (go_at_call 204; ((with_reducible refine (CL.out).mono ?_); rintro e w1 ⟨st1, g1, i1, qA, cA, m1, F2, rfl, r1, r2, r3, r4, r5, r6, r7⟩; obtain ⟨q', he, k1, k2, k3, k4, k5, k6⟩ := yda r1; obtain rfl : qA = q' := congrArg Addr.block (Option.some.inj he); have R1 := Lib.hid r1; have R2 := Lib.hid r2; have R3 := Lib.hid r3; have R4 := Lib.hid r4; have R5 := Lib.hid r5; have R6 := Lib.hid r6; have R7 := Lib.hid r7; obtain ⟨its9, x1, x2, x3, x4⟩ := r5.gone; have CR : Hid (∀ V', Touch [] w1 V' → Calls Tryz.prog 205 #[.pointer (some ⟨g1, 0, none⟩), .int .i64 (i1 : Nat)] V' (ybt V' F2 (upd m1 g1 ⟨yaj its9 i1, []⟩) (.tuple #[]))) := (fun V' hV' => yvt g1 i1 V' (r4.new hV') x1 x2 (Nat.le_trans x3 (of_decide_eq_true rfl))); have HSK := Lib.hid (x4 _ (upd_same m1 g1 ⟨yaj its9 i1, []⟩) (fun z hz => ya3 m1 _ hz)); clear x1 x2 x3 x4 r1 r2 r3 r4 r5 r6 r7 he k3; have hcl : st1.length + 1 ≤ 9223372036854775807 := Nat.le_trans k5 (Nat.le_trans k6 (by unfold maxLen; omega)); obtain ⟨sl, hsl⟩ : ∃ sl, st1.length = sl := ⟨_, rfl⟩; have HSL := Lib.hid hsl; rw [hsl] at k1 k2 k5 hcl ⊢; clear hsl))
  | (go_at_call 205; ((with_reducible refine (CR.out _ ((Touch.refl _ _).alloc _)).mono ?_); rintro e w2 ⟨rfl, F3, hS2, hP2⟩; have HTS : Hid (yg3 W gs q F1 top (n - 1) most (delN l k) qA cA w2 st1) := yxn HT.out HX.out HG.out HQG.out R1.out R2.out R3.out R6.out R7.out hS2 hP2 HSK.out; clear hS2 hP2)))
 go_loopg [1] (sl + 1) (fun gh s1 wx => ∃ st, s1 = .slice (some ⟨qA, 0, none⟩) (st.length + 1) cA ∧ Hid (yg3 W gs q F1 top (n - 1) most (delN l k) qA cA wx st) ∧ gh = st.length + 1)
 case atStart => exact ⟨st1, by rw [HSL.out], HTS.out, by rw [HSL.out]⟩
 case round =>
  obtain ⟨st, rfl, HA, hgh⟩ := hrel
  obtain ⟨m', F, gz, iz, hX, hS, hgs, hqA, hqg, hsk, hR, hT, hF⟩ := HA.out
  rcases List.eq_nil_or_concat st with rfl | ⟨st', s', rfl⟩
  ·obtain ⟨t, its, ps, rfl, e1, e2, e3, e4⟩ := hsk.end
   have HX' := Lib.hid hX
   have HS' := Lib.hid hS
   have HG' := Lib.hid hgs
   have HT' := Lib.hid hT
   have HF' := Lib.hid hF
   have c0 : wr.cell? ⟨gs, 0, none⟩ = some (.pointer (some ⟨t, 0, none⟩)) := hX.c0
   have f0 := hX.f0
   have hgw := hX.lt
   obtain ⟨C, e9, hC⟩ : ∃ C e, wr.cell? ⟨t, 0, none⟩ = some (.slice C its.length e) := by
    obtain ⟨v, u, hN, -, -⟩ := hS.at e1
    have hN : NdX wr t its ps v u := hN
    obtain ⟨C, e, rfl⟩ := yav hN.r0
    exact ⟨C, e, hN.c0⟩
   cases its with
   | cons x its =>
    have HTR := Lib.hid (e3 (by simp))
    obtain ⟨nn, hnn, hn1⟩ : ∃ nn, (x :: its).length = nn ∧ ((nn : Int) == 0) = false := ⟨_, rfl, by simp; omega⟩
    rw [hnn] at hC
    clear hX hS hgs hqA hqg hsk hR hT hF HA hgh e1 e2 e3 e4 hnn HTS HSK CR R1 R2 R3 R4 R5 R6 R7 CL HR
    go_wp2_with fail
    go_end0
    exact ⟨rfl, some t, _, F, HX'.out, HS'.out, HG'.out, HTR.out, HT'.out, HF'.out⟩
   | nil =>
    rcases e4 rfl with ⟨rfl, hTr⟩ | ⟨t2, rfl, hTr⟩
    ·have HTR := Lib.hid hTr
     have CD : Hid (Calls Tryz.prog 192 #[.pointer (some ⟨t, 0, none⟩), .int .i64 0] wr fun e w => e = .returned (.pointer none) ∧ wr = w) := (yog wr hS e1 (by simp)).1 rfl
     clear hX hS hgs hqA hqg hsk hR hT hF HA hgh e1 e2 e3 e4 HTS HSK CR R1 R2 R3 R4 R5 R6 R7 CL HR hTr
     go_wp2_with (first
      | (go_at_call 192; ((with_reducible refine (CD.out).mono ?_); rintro e w5 ⟨rfl, rfl⟩)))
     go_end0
     exact take_set HX'.out HS'.out HG'.out HT'.out HF'.out HTR.out rfl
    ·have HTR := Lib.hid hTr
     have CD : Hid (Calls Tryz.prog 192 #[.pointer (some ⟨t, 0, none⟩), .int .i64 0] wr fun e w => e = .returned (.pointer (some ⟨t2, 0, none⟩)) ∧ wr = w) := (yog wr hS e1 (by simp)).2 t2 rfl
     clear hX hS hgs hqA hqg hsk hR hT hF HA hgh e1 e2 e3 e4 HTS HSK CR R1 R2 R3 R4 R5 R6 R7 CL HR hTr
     go_wp2_with (first
      | (go_at_call 192; ((with_reducible refine (CD.out).mono ?_); rintro e w5 ⟨rfl, rfl⟩)))
     go_end0
     exact take_set HX'.out HS'.out HG'.out HT'.out HF'.out HTR.out rfl
  ·rw [List.concat_eq_append] at *
   obtain ⟨g', i'⟩ := s'
   have hR' : WRow wr 0 (.slice (some ⟨qA, 0, none⟩) (st' ++ [(g', i')]).length cA) (st' ++ [(g', i')]) := yot rfl hR
   obtain ⟨q', he, k1', k2', k3', k4', k5', k6'⟩ := yda hR'
   obtain rfl : qA = q' := congrArg Addr.block (Option.some.inj he)
   have CM : Hid (∀ V, Touch [] wr V → Calls Tryz.prog 206 #[.pointer (some ⟨g', 0, none⟩), .int .i64 (i' : Nat)] V fun e w => e = .returned (.tuple #[]) ∧ ∃ m2 F2, Sto w m2 F2 ∧ Stp V F w F2 ∧ Sunk m2 top (delN l k) st') := fun V hV => yxp hsk V (hS.new hV)
   have hlen1 : (st' ++ [(g', i')]).length = st'.length + 1 := by simp
   have hlen2 : ((st' ++ [(g', i')]) ++ [(gz, iz)]).length = st'.length + 1 + 1 := by simp
   have hcap : st'.length + 1 + 1 ≤ cA ∧ cA ≤ maxLen := by
    have h := yda hR
    obtain ⟨_, _, _, _, _, _, a, b⟩ := h
    rw [hlen1] at a
    exact ⟨a, b⟩
   have hcl2 : st'.length + 1 + 1 ≤ 9223372036854775807 := Nat.le_trans hcap.1 (Nat.le_trans hcap.2 (by unfold maxLen; omega))
   have HX' := Lib.hid hX
   have HG' := Lib.hid hgs
   have HQ' := Lib.hid hqA
   have HT' := Lib.hid hT
   have HF' := Lib.hid hF
   have HR' := Lib.hid hR'
   have HQG' := Lib.hid hqg
   rw [hlen1] at hgh ⊢
   obtain ⟨sl2, hsl2⟩ : ∃ sl2, st'.length = sl2 := ⟨_, rfl⟩
   have HSL2 := Lib.hid hsl2
   rw [hsl2] at k1' k2' k5' hcl2 hgh hcap ⊢
   clear hX hS hgs hqA hqg hsk hR hT hF HA HTS HSK CR R1 R2 R3 R4 R5 R6 R7 CL HR hR' he k3' hlen1 hlen2 hsl2
   have hc1 := hcap.1
   go_wp2_with (first
    | (go_at_call 206; ((with_reducible refine (CM.out _ ((Touch.refl _ _).alloc _)).mono ?_); rintro e w2 ⟨rfl, m2, F4, hS2, hP2, hsk2⟩; have HTS : Hid (yg3 W gs q F1 top (n - 1) most (delN l k) qA cA w2 st') := yxo HX'.out HG'.out HQ'.out HQG'.out HR'.out HT'.out HF'.out hS2 hP2 hsk2; clear hS2 hP2 hsk2)))
   go_roundg (sl2 + 1)
   case measure => omega
   case rel => exact ⟨st', by rw [HSL2.out], HTS.out, by rw [HSL2.out]⟩
def yo4 (W : World) (gs : Nat) (most : Int) (l : List Item) (F : List Nat) (k : ByteArray) (e : Ending) (w' : World) : Prop :=
 e = .returned (.bool (hasN l k)) ∧ ∃ F', SH w' gs most (delN l k) F' ∧ Touch F W w' ∧ ∀ q ∈ F', q ∈ F ∨ W.heap.size ≤ q
theorem yxr {l : List Item} {k : ByteArray} (h : hasN l k = false) : delN l k = l := by rw [delN, h]; rfl
theorem yxs {W w1 w : World} {gs q : Nat} {most n : Int} {l L : List Item} {F1 : List Nat} {k : ByteArray} (hd : delN l k = L) (hh : hasN l k = true) (hr : yah l) (hl : (L.length : Int) = n) (hlm : n ≤ most) (hm2 : most ≤ 200) (hb : Below W.heap.size W w1) (hq : W.heap.size ≤ q) (h : yip w1 gs q F1 n most L (.returned (.tuple #[])) w) :
  yo4 W gs most l (gs :: F1) k (.returned (.bool true)) w := by
 obtain ⟨-, top, m, F', a, b, c, d, e1, e2⟩ := h
 subst hd
 subst hl
 refine ⟨by rw [hh], gs :: F', ⟨top, m, F', a, b, c, rfl, d, hr.del k, hlm, hm2⟩, (Touch.ofBelow (F := gs :: F1) hb).trans e1 (fun x hx => ?_), fun z hz => ?_⟩
 ·rcases List.mem_cons.1 hx with e | e
  ·exact .inr (by rw [e]; exact hq)
  ·exact .inl e
 ·rcases List.mem_cons.1 hz with e | e
  ·exact .inl (by rw [e]; simp)
  ·rcases e2 z e with e | e
   ·exact .inl (by simp [e])
   ·exact .inr (Nat.le_trans hb.size e)
theorem yxt {W : World} {gs : Nat} {most : Int} {l : List Item} {F : List Nat} (k : ByteArray) (h : SH W gs most l F) :
  Calls Tryz.prog 139 #[.pointer (some ⟨gs, 0, none⟩), .string k] W (yo4 W gs most l F k) := by
 have hH := h
 obtain ⟨top, m, F1, hX, hS, hgs, rfl, hT, hr, hlm, hm2⟩ := h
 have HH := Lib.hid hH
 clear hH
 cases hh : hasN l k
 ·have CW := Lib.hid (yin hX hS hT hr (by omega) hh)
  have HD : Hid (hasN l k = false) := hh
  clear hX hS hT hr hlm hm2 hh
  go_enter Tryz.func139, Tryz.ntmps139
  go_wp2_with (go_at_call 182; ((with_reducible refine (CW.out).mono ?_); rintro e w1 ⟨steps, A, c, rfl, hO, hB, hM⟩; have HB := Lib.hid hB; clear hO hB hM))
  go_ret
  exact ⟨by rw [HD.out]; rfl, _, by rw [yxr HD.out]; exact HH.out.touch (Touch.ofBelow (F := []) HB.out) (by simp), Touch.ofBelow HB.out, fun q hq => .inl hq⟩
 ·have CW := Lib.hid (ykp hX hS hT hr (by omega) hh)
  have HS := Lib.hid hS
  have HX := Lib.hid hX
  have HG := Lib.hid hgs
  have hll : ((delN l k).length : Int) = ((l.length : Nat) : Int) - 1 ∧ 1 ≤ l.length := by
   have z := ylr l k
   rw [hh] at z
   have z2 : (delN l k).length = l.length - 1 := z
   have z3 : 1 ≤ l.length := by
    cases l with
    | nil => simp [hasN] at hh
    | cons _ _ => simp
   omega
  have HL := Lib.hid hll
  have HR := Lib.hid hr
  have HD : Hid (hasN l k = true) := hh
  have HLM : Hid (((l.length : Nat) : Int) ≤ most ∧ most ≤ 200) := ⟨hlm, hm2⟩
  clear hX hS hT hr hlm hm2 hh hgs hll
  go_enter Tryz.func139, Tryz.ntmps139
  go_wp2_with (first
   | (go_at_call 182; ((with_reducible refine (CW.out).mono ?_); rintro e w1 ⟨st, g, i, u, q, c, rfl, hO, hB, hF⟩; have HB := Lib.hid hB; have HQ := Lib.hid (hO.lt q rfl); have CT : Hid (Calls Tryz.prog 185 #[.pointer (some ⟨gs, 0, none⟩), .slice (some ⟨q, 0, none⟩) (st.length + 1) c] w1 (yip w1 gs q F1 (((l.length : Nat) : Int) - 1) most (delN l k))) := yxq w1 (HX.out.touch (Touch.ofBelow (F := []) hB) (by simp)) (HS.out.below hB) HG.out (by have := HL.out.2; omega) (by have := HLM.out; omega) hF (by have := HLM.out; omega) (ybp hO (Nat.zero_le _)) (fun e => by have := HS.out.lt _ e; have := HQ.out.1; omega) (fun e => by have := HX.out.lt; have := HQ.out.1; omega); clear hO hB hF))
   | (go_at_call 185; ((with_reducible refine (CT.out).mono ?_); rintro e w2 hw; have HW := Lib.hid hw; obtain ⟨rfl, -⟩ := hw)))
  go_ret
  exact yxs rfl HD.out HR.out HL.out.1 (by have := HLM.out; omega) HLM.out.2 HB.out HQ.out.1 HW.out
end Go.Proofs.YtnjodhglbapnlaaGreat
