/-
  The walks of a node's insert and remove.
  The walk of a node's remove.
  The walk of a node's split.
  The walk of a node's split, where there are nodes below it.
-/
import Derived.Test.YthgndgoljchnfaaGreatHg17
import Derived.Deep.RegionWith
namespace Go.Proofs.YthgndgoljchnfaaGreat
open Go.RowKit

/-- what a step of a store leaves -/
def StoPost (W : World) (F : List Nat) (m : NMap) (r : Value) (e : Ending) (w : World) : Prop := e = .returned r ∧ ∃ F', Sto w m F' ∧ Stp W F w F'

theorem heap_new2 (W : World) (a b : Obj) : ((W.alloc a).alloc b).drew.heap[W.heap.size + 1]? = some b := heap_alloc2_new W a b
theorem heap_new1 (W : World) (a : Obj) : (W.alloc a).heap[W.heap.size]? = some a := heap_alloc_new W a
set_option maxRecDepth 100000 in
set_option maxHeartbeats 2000000 in
theorem insert_leaf (g i : Nat) (k v : ByteArray) {its : List Item} {ps : List Nat} {m : NMap} {F : List Nat} (W : World) (h : Sto W m F) (hm : m g = some ⟨its, ps⟩) (hi : i ≤ its.length) (hn : its.length ≤ 1000) :
    Calls Tryz.prog 116 #[ptr g, .int .i64 (i : Nat), .agg #[.string k, .string v], .pointer none] W (StoPost W F (upd m g ⟨insAt its i (k, v), ps⟩) (.tuple #[])) := by
  obtain ⟨v0, u0, hN, hF, hfin⟩ := h.at hm
  have hN : NdX W g its ps v0 u0 := hN
  have CI : Hid (∀ Wc vb, Touch [] W Wc → Wc.heap[vb]? = some (.cells #[.string k, .string v] 31 (0, 0)) → W.heap.size ≤ vb → Calls Tryz.prog 129 #[v0, .int .i64 (i : Nat), .slice (some ⟨vb, 0, none⟩) 1 1] Wc
      fun e w1 => ∃ A c n, e = .returned (.slice A n c) ∧ Set0 W w1 g (insAt its i (k, v)) ps v0 u0 (.slice A n c)) := fun Wc vb ht hvb hlt => (insItems_call g i vb k v Wc (hN.new ht) hi hn hvb (fun e => by have := (hN.ltb vb e).1; omega)).mono fun e w1 ⟨A, c, n, he, hS⟩ => ⟨A, c, n, he, hS.from ht⟩
  have hg := hN.lt
  have c0 := hN.c0
  have HN := Lib.hid hN
  have HF := Lib.hid hfin
  clear hN hfin hF h hm hi hn
  unfold ptr at *
  go_enter Tryz.func116, Tryz.ntmps116
  go_wp2
  go_region_with (go_at_call 129; ((with_reducible refine (CI.out _ _ (((Touch.refl _ _).alloc _).alloc _).drew (heap_new2 _ _ _) (by omega)).mono ?_); rintro e w1 ⟨A1, d1, n1, rfl, hS⟩; have sc := hS.c; have sf := hS.f; have HS := Lib.hid hS; clear hS))
  all_goals
    go_wp2
    go_end0
    exact ⟨rfl, _, HF.out _ _ _ _ _ HS.out.nd HS.out.t HS.out.b⟩

set_option maxRecDepth 100000 in
set_option maxHeartbeats 4000000 in
theorem insert_above (g i b : Nat) (k v : ByteArray) {its : List Item} {ps : List Nat} {m : NMap} {F : List Nat} (W : World) (h : Sto W m F) (hm : m g = some ⟨its, ps⟩) (hi : i ≤ its.length) (hn : its.length ≤ 1000) (hp : i + 1 ≤ ps.length) (hpn : ps.length ≤ 1000) :
    Calls Tryz.prog 116 #[ptr g, .int .i64 (i : Nat), .agg #[.string k, .string v], ptr b] W (StoPost W F (upd m g ⟨insAt its i (k, v), insAt ps (i + 1) b⟩) (.tuple #[])) := by
  obtain ⟨v0, u0, hN, hF, hfin⟩ := h.at hm
  have hN : NdX W g its ps v0 u0 := hN
  have CI : Hid (∀ Wc vb, Touch [] W Wc → Wc.heap[vb]? = some (.cells #[.string k, .string v] 31 (0, 0)) → W.heap.size ≤ vb → Calls Tryz.prog 129 #[v0, .int .i64 (i : Nat), .slice (some ⟨vb, 0, none⟩) 1 1] Wc
      fun e w1 => ∃ A c n, e = .returned (.slice A n c) ∧ Set0 W w1 g (insAt its i (k, v)) ps v0 u0 (.slice A n c)) := fun Wc vb ht hvb hlt => (insItems_call g i vb k v Wc (hN.new ht) hi hn hvb (fun e => by have := (hN.ltb vb e).1; omega)).mono fun e w1 ⟨A, c, n, he, hS⟩ => ⟨A, c, n, he, hS.from ht⟩
  have CN : Hid (∀ V vb its' v', vb = V.heap.size → NdX V g its' ps v' u0 → Calls Tryz.prog 130 #[u0, .int .i64 ((i : Int) + 1), .slice (some ⟨vb, 0, none⟩) 1 1] (V.alloc (.cells #[.pointer (some ⟨b, 0, none⟩)] 101))
      fun e w1 => ∃ A c n, e = .returned (.slice A n c) ∧ Set1 (V.alloc (.cells #[.pointer (some ⟨b, 0, none⟩)] 101)) w1 g its' (insAt ps (i + 1) b) v' u0 (.slice A n c)) := by
    rintro V vb its' v' rfl hV
    exact insNodes_call g (i + 1) V.heap.size b _ (hV.new ((Touch.refl _ _).alloc _)) hp hpn (heap_new1 _ _) (fun e => by have := (hV.ltb _ e).1; omega)
  have hg := hN.lt
  have c0 := hN.c0
  have b1 : (i : Int) < 1000 := by omega
  have HN := Lib.hid hN
  have HF := Lib.hid hfin
  clear hN hfin hF h hm hi hn hp hpn
  unfold ptr at *
  go_enter Tryz.func116, Tryz.ntmps116
  go_wp2
  go_region_with (go_at_call 129; ((with_reducible refine (CI.out _ _ (((Touch.refl _ _).alloc _).alloc _).drew (heap_new2 _ _ _) (by omega)).mono ?_); rintro e w1 ⟨A1, d1, n1, rfl, hS⟩; have sc := hS.c; have sf := hS.f; obtain ⟨sc1, sf1⟩ := hS.other; have HS := Lib.hid hS; clear hS))
  all_goals
    go_wp2_with (go_at_call 130; ((with_reducible refine (CN.out _ _ _ _ (by simp) HS.out.nd).mono ?_); rintro e w2 ⟨A2, d2, n2, rfl, hS2⟩; have sc2 := hS2.c; have sf2 := hS2.f; have HS2 := Lib.hid hS2; clear hS2))
    go_end0
    exact ⟨rfl, _, HF.out _ _ _ _ _ HS2.out.nd (HS.out.then ((Touch.refl _ _).alloc _) HS2.out).1 (HS.out.then ((Touch.refl _ _).alloc _) HS2.out).2⟩
end Go.Proofs.YthgndgoljchnfaaGreat
namespace Go.Proofs.YthgndgoljchnfaaGreat
open Go.RowKit

set_option maxRecDepth 100000 in
set_option maxHeartbeats 2000000 in
theorem remove_leaf (g i : Nat) {its : List Item} {m : NMap} {F : List Nat} (W : World) (h : Sto W m F) (hm : m g = some ⟨its, []⟩) (hi : i < its.length) (hn : its.length ≤ 1000) :
    Calls Tryz.prog 120 #[ptr g, .int .i64 (i : Nat)] W (StoPost W F (upd m g ⟨remAt its i, []⟩) (.tuple #[])) := by
  obtain ⟨v0, u0, hN, hF, hfin⟩ := h.at hm
  have hN : NdX W g its [] v0 u0 := hN
  obtain ⟨q, c, rfl, hq1, hq2⟩ := row_at hN.r0 (by omega)
  obtain ⟨B, d, rfl⟩ := own_slice hN.r1
  have CD : Hid (Calls Tryz.prog 131 #[.slice (some ⟨q, 0, none⟩) its.length c, .int .i64 (i : Nat), .int .i64 ((i : Int) + 1)] W fun e w1 => ∃ n, e = .returned (.slice (some ⟨q, 0, none⟩) n c) ∧ Set0 W w1 g (remAt its i) [] (.slice (some ⟨q, 0, none⟩) its.length c) (.slice B 0 d) (.slice (some ⟨q, 0, none⟩) n c)) :=
    delItems_call g i (i + 1) q c W hN (by omega) (by omega) hn
  have hg := hN.lt
  have c0 := hN.c0
  have b1 : (i : Int) < 1000 := by omega
  have HF := Lib.hid hfin
  obtain ⟨n, hl⟩ : ∃ n, its.length = n := ⟨_, rfl⟩
  rw [hl] at CD c0 HF
  clear hN hfin hF h hm hi hn hq1 hq2 hl
  unfold ptr at *
  go_enter Tryz.func120, Tryz.ntmps120
  go_wp2_with (go_at_call 131; ((with_reducible refine (CD.out).mono ?_); rintro e w1 ⟨n1, rfl, hS⟩; have sc := hS.c; have sf := hS.f; obtain ⟨sc1, sf1⟩ := hS.other; have HS := Lib.hid hS; clear hS))
  go_end0
  exact ⟨rfl, _, HF.out _ _ _ _ _ HS.out.nd HS.out.t HS.out.b⟩
set_option maxRecDepth 100000 in
set_option maxHeartbeats 2000000 in
theorem remove_above (g i : Nat) {its : List Item} {ps : List Nat} {m : NMap} {F : List Nat} (W : World) (h : Sto W m F) (hm : m g = some ⟨its, ps⟩) (hi : i < its.length) (hn : its.length ≤ 1000) (hp : i + 1 < ps.length) (hpn : ps.length ≤ 1000) :
    Calls Tryz.prog 120 #[ptr g, .int .i64 (i : Nat)] W (StoPost W F (upd m g ⟨remAt its i, remAt ps (i + 1)⟩) (.tuple #[])) := by
  obtain ⟨v0, u0, hN, hF, hfin⟩ := h.at hm
  have hN : NdX W g its ps v0 u0 := hN
  obtain ⟨q, c, rfl, hq1, hq2⟩ := row_at hN.r0 (by omega)
  obtain ⟨q', d, rfl, hq3, hq4⟩ := row_at hN.r1 (by omega)
  have CD : Hid (Calls Tryz.prog 131 #[.slice (some ⟨q, 0, none⟩) its.length c, .int .i64 (i : Nat), .int .i64 ((i : Int) + 1)] W fun e w1 => ∃ n, e = .returned (.slice (some ⟨q, 0, none⟩) n c) ∧ Set0 W w1 g (remAt its i) ps (.slice (some ⟨q, 0, none⟩) its.length c) (.slice (some ⟨q', 0, none⟩) ps.length d) (.slice (some ⟨q, 0, none⟩) n c)) :=
    delItems_call g i (i + 1) q c W hN (by omega) (by omega) hn
  have CN : Hid (∀ V its' v', NdX V g its' ps v' (.slice (some ⟨q', 0, none⟩) ps.length d) → Calls Tryz.prog 133 #[.slice (some ⟨q', 0, none⟩) ps.length d, .int .i64 ((i : Int) + 1), .int .i64 ((i : Int) + 2)] V fun e w1 => ∃ n, e = .returned (.slice (some ⟨q', 0, none⟩) n d) ∧ Set1 V w1 g its' (remAt ps (i + 1)) v' (.slice (some ⟨q', 0, none⟩) ps.length d) (.slice (some ⟨q', 0, none⟩) n d)) :=
    fun V its' v' hV => delNodes_call g (i + 1) (i + 2) q' d V hV (by omega) (by omega) hpn
  have hg := hN.lt
  have c0 := hN.c0
  have b1 : (i : Int) < 1000 := by omega
  have HF := Lib.hid hfin
  obtain ⟨n, hl⟩ : ∃ n, its.length = n := ⟨_, rfl⟩
  obtain ⟨n', hl'⟩ : ∃ n', ps.length = n' := ⟨_, rfl⟩
  rw [hl] at CD c0 HF
  rw [hl'] at CD CN HF
  have b2 : (0 : Int) < (n' : Int) := by omega
  clear hN hfin hF h hm hi hn hq1 hq2 hq3 hq4 hl hl' hp hpn
  unfold ptr at *
  go_enter Tryz.func120, Tryz.ntmps120
  go_wp2_with (first
    | (go_at_call 131; ((with_reducible refine (CD.out).mono ?_); rintro e w1 ⟨n1, rfl, hS⟩; have sc := hS.c; have sf := hS.f; obtain ⟨sc1, sf1⟩ := hS.other; have HS := Lib.hid hS; clear hS))
    | (go_at_call 133; ((with_reducible refine (CN.out _ _ _ HS.out.nd).mono ?_); rintro e w2 ⟨n2, rfl, hS2⟩; have sc2 := hS2.c; have sf2 := hS2.f; have HS2 := Lib.hid hS2; clear hS2)))
  go_end0
  exact ⟨rfl, _, HF.out _ _ _ _ _ HS2.out.nd (HS.out.then (Touch.refl _ _) HS2.out).1 (HS.out.then (Touch.refl _ _) HS2.out).2⟩
end Go.Proofs.YthgndgoljchnfaaGreat
namespace Go.Proofs.YthgndgoljchnfaaGreat
open Go.RowKit

/-- a block of two cells that may be written -/
structure Box2 (W : World) (b : Nat) (x y : Value) : Prop where
  lt : b < W.heap.size
  c0 : W.cell? ⟨b, 0, none⟩ = some x
  c1 : W.cell? ⟨b, 1, none⟩ = some y
  f0 : W.frozen? ⟨b, 0, none⟩ = false
  f1 : W.frozen? ⟨b, 1, none⟩ = false
theorem Box2.touch {W W1 : World} {b : Nat} {x y : Value} {G : List Nat} (h : Box2 W b x y) (ht : Touch G W W1) (hg : b ∉ G) : Box2 W1 b x y :=
  ⟨Nat.lt_of_lt_of_le h.lt ht.size, (ht.cell (p := ⟨b, 0, none⟩) h.lt hg).trans h.c0, (ht.cell (p := ⟨b, 1, none⟩) h.lt hg).trans h.c1, (ht.frozen (p := ⟨b, 0, none⟩) h.lt hg).trans h.f0, (ht.frozen (p := ⟨b, 1, none⟩) h.lt hg).trans h.f1⟩

theorem Box2.unset {W : World} {g o b : Nat} {x y v : Value} (h : Box2 (W.setCell ⟨g, o, none⟩ v) b x y) (hb : b ≠ g) : Box2 W b x y := by
  obtain ⟨h1, h2, h3, h4, h5⟩ := h
  rw [World.cell?_setCell_other _ _ _ _ (fun e => hb (by cases e; rfl))] at h2 h3
  rw [World.frozen?_setCell] at h4 h5
  exact ⟨by simpa [World.setCell] using h1, h2, h3, h4, h5⟩
theorem Set0.box {V w2 : World} {g b : Nat} {its : List Item} {ps : List Nat} {v0 u0 v' x y : Value} (h : Set0 V w2 g its ps v0 u0 v') (k : Box2 V b x y) (hb : b ∉ g :: blocks v0 u0) : Box2 w2 b x y :=
  (k.touch h.t hb).unset (fun e => hb (by rw [e]; simp))
theorem Set1.box {V w2 : World} {g b : Nat} {its : List Item} {ps : List Nat} {v0 u0 u' x y : Value} (h : Set1 V w2 g its ps v0 u0 u') (k : Box2 V b x y) (hb : b ∉ g :: blocks v0 u0) : Box2 w2 b x y :=
  (k.touch h.t hb).unset (fun e => hb (by rw [e]; simp))
theorem Box2.fresh (W : World) (x y : Value) (T : TypeId) : Box2 (W.alloc (.cells #[x, y] T)) W.heap.size x y :=
  ⟨by simp, by go_simp, by go_simp, by go_simp, by go_simp⟩
theorem Box2.freshAt (W : World) (x y : Value) (T : TypeId) {b : Nat} (hb : b = W.heap.size) : Box2 (W.alloc (.cells #[x, y] T)) b x y := by subst hb; exact Box2.fresh W x y T
theorem NdX.box {W : World} {g : Nat} {its : List Item} {ps : List Nat} {v u : Value} (h : NdX W g its ps v u) : Box2 W g v u := ⟨h.lt, h.c0, h.c1, h.f0, h.f1⟩
/-- a node that has just been laid -/
theorem NdX.fresh {w1 : World} {its : List Item} {ps : List Nat} {v u : Value} {b1 b2 k1 k2 : Nat} {xs ys : List Value} (T : TypeId) (h0 : w1.ownsRow b1 31 2 v k1 xs) (hk1 : its.length = k1) (hxs : xs = itemCells its) (h1 : w1.ownsRow b2 101 1 u k2 ys) (hk2 : ps.length = k2) (hys : ys = ptrCells ps)
    (ha : ∀ q, v.ownBlock = some q → u.ownBlock ≠ some q) : NdX (w1.alloc (.cells #[v, u] T)) w1.heap.size its ps v u := by
  subst hk1 hk2 hxs hys
  have hb := Box2.fresh w1 v u T
  have r0 := (own_mono h0 (Nat.zero_le _)).alloc (.cells #[v, u] T)
  have r1 := (own_mono h1 (Nat.zero_le _)).alloc (.cells #[v, u] T)
  exact ⟨hb.lt, hb.c0, hb.c1, hb.f0, hb.f1, r0, r1, fun q e => by have := (h0.lt q e).2; omega, fun q e => by have := (h1.lt q e).2; omega, ha⟩
theorem split_leaf_end {W Wc w1 w2 w3 : World} {m : NMap} {F : List Nat} {g q c mid n k n1 : Nat} {its : List Item} {u0 vc : Value} {r : Value} {T : TypeId} (hS : Sto W m F) (hT : NTurns W m F g (.slice (some ⟨q, 0, none⟩) n c) u0) (hN : NdX W g its [] (.slice (some ⟨q, 0, none⟩) n c) u0)
    (hc : Touch [] W Wc) (ho : w1.ownsRow Wc.heap.size 31 2 vc k (itemCells (its.drop (mid + 1)))) (hk : (its.drop (mid + 1)).length = k) (hb : Below Wc.heap.size Wc w1)
    (h2 : Set0 (w1.alloc (.cells #[vc, .slice none 0 0] T)).drew w2 g (its.take mid ++ its.drop n) [] (.slice (some ⟨q, 0, none⟩) n c) u0 (.slice (some ⟨q, 0, none⟩) n1 c)) (hn : its.length = n)
    {z : Nat} (hz : W.heap.size ≤ z) (hz2 : z < Wc.heap.size) (h3 : Touch [z] (w2.setCell ⟨g, 0, none⟩ (.slice (some ⟨q, 0, none⟩) n1 c)) w3) :
    W.heap.size ≤ w1.heap.size ∧ StoPost W F (upd (upd m g ⟨its.take mid, []⟩) w1.heap.size ⟨its.drop (mid + 1), []⟩) r (.returned r) w3 := by
  have e : its.take mid ++ its.drop n = its.take mid := by rw [List.drop_of_length_le (by omega), List.append_nil]
  rw [e] at h2
  have hg := hN.lt
  have hq := (hN.ltb q (mem_blocks.2 (.inl rfl))).1
  have t1 : Touch [] W w1 := hc.trans (Touch.ofBelow (F := []) hb) (by simp)
  have t2 : Touch [] W (w1.alloc (.cells #[vc, .slice none 0 0] T)).drew := (t1.alloc _).drew
  have hgb : ∀ x, x ∈ g :: blocks (.slice (some ⟨q, 0, none⟩) n c) u0 → x < W.heap.size := fun x hx => by
    rcases List.mem_cons.1 hx with e | e
    · omega
    · exact (hN.ltb x e).1
  have hvc : ∀ x, x ∈ blocks vc (.slice none 0 0) → Wc.heap.size ≤ x ∧ x < w1.heap.size := fun x hx => by
    rcases mem_blocks.1 hx with e | e
    · exact ho.lt x e
    · cases e
  have s1 : W.heap.size ≤ Wc.heap.size := hc.size
  have s2 : Wc.heap.size ≤ w1.heap.size := hb.size
  have f1 : NdX (w1.alloc (.cells #[vc, .slice none 0 0] T)).drew w1.heap.size (its.drop (mid + 1)) [] vc (.slice none 0 0) :=
    (NdX.fresh T ho hk rfl (World.ownsRow_nil _ 0 _ _) rfl rfl (fun q _ e => by cases e)).drew
  have f2 := f1.touch h2.t (fun e => by have := hgb _ e; omega) (fun x hx e => by have := hgb _ e; have := (hvc x hx).1; omega)
  have f3 := f2.touch h3 (by simp; omega) (fun x hx => by have := hvc x hx; simp; omega)
  have g3 := h2.nd.touch h3 (by simp; omega) (fun x hx => by
    rcases h2.b x hx with e | e
    · have := (hN.ltb x e).1; simp; omega
    · have e3 : x = q ∨ u0.ownBlock = some x := by
        rcases mem_blocks.1 hx with e5 | e5
        · exact .inl (Option.some.inj e5).symm
        · exact .inr e5
      have e4 : x < W.heap.size := by
        rcases e3 with e5 | e5
        · omega
        · exact (hN.ltb x (mem_blocks.2 (.inr e5))).1
      simp; omega)
  have tf : Touch (g :: blocks (.slice (some ⟨q, 0, none⟩) n c) u0) W w3 :=
    ((t2.mono (by simp)).trans h2.t (fun x hx => .inl hx)).trans h3 (fun x hx => .inr (by simp at hx; omega))
  obtain ⟨a, b⟩ := NTurns.two hS hT g3 f3 tf (fun x hx => by
    have e3 : x ∈ blocks (.slice (some ⟨q, 0, none⟩) n c) u0 := hx
    exact ⟨(hN.ltb x e3).1, e3⟩) (by omega) (fun x hx => by have := (hvc x hx).1; omega)
  exact ⟨by omega, rfl, _, a, b⟩

set_option maxRecDepth 100000 in
set_option maxHeartbeats 4000000 in
theorem split_leaf (g : Nat) {its : List Item} {m : NMap} {F : List Nat} (W : World) (h : Sto W m F) (hm : m g = some ⟨its, []⟩) (mid : Nat) (hmid : its.length / 2 = mid) (hlo : mid + 1 < its.length) (hn : its.length ≤ 1000) (x : Item) (hx : its[mid]? = some x) :
    Calls Tryz.prog 117 #[ptr g] W fun e w => ∃ b, W.heap.size ≤ b ∧ StoPost W F (upd (upd m g ⟨its.take mid, []⟩) b ⟨its.drop (mid + 1), []⟩) (.tuple #[.agg #[.string x.1, .string x.2], ptr b]) e w := by
  obtain ⟨v0, u0, hN, hF, hfin⟩ := h.at hm
  have hN : NdX W g its [] v0 u0 := hN
  obtain ⟨q, c, rfl, hq1, hq2⟩ := row_at hN.r0 (by omega)
  obtain ⟨B, d, rfl⟩ := own_slice hN.r1
  have hmn : mid < its.length := by omega
  have CD : Hid (∀ V, NdX V g its [] (.slice (some ⟨q, 0, none⟩) its.length c) (.slice B 0 d) → Calls Tryz.prog 131 #[.slice (some ⟨q, 0, none⟩) its.length c, .int .i64 (mid : Nat), .int .i64 (its.length : Nat)] V fun e w1 => ∃ n, e = .returned (.slice (some ⟨q, 0, none⟩) n c) ∧ Set0 V w1 g (its.take mid ++ its.drop its.length) [] (.slice (some ⟨q, 0, none⟩) its.length c) (.slice B 0 d) (.slice (some ⟨q, 0, none⟩) n c)) :=
    fun V hV => delItems_call g mid its.length q c V hV (by omega) (Nat.le_refl _) hn
  have CC : Hid (∀ Wc, Touch [] W Wc → Calls Tryz.prog 122 #[.slice (some ⟨q, (mid + 1) * 2, none⟩) (its.length - (mid + 1)) (c - (mid + 1))] Wc fun e w1 => ∃ A' c', e = .returned (.slice A' (its.length - (mid + 1)) c') ∧ w1.ownsRow Wc.heap.size 31 2 (.slice A' (its.length - (mid + 1)) c') (its.length - (mid + 1)) (itemCells (its.drop (mid + 1))) ∧ Below Wc.heap.size Wc w1) := by
    intro Wc ht
    have hr : Row Wc (.slice (some ⟨q, 0, none⟩) its.length c) its := (hN.new ht).r0
    refine (cloneItems_any q ((mid + 1) * 2) (its.length - (mid + 1)) (c - (mid + 1)) (itemCells (its.drop (mid + 1))) Wc (by rw [itemCells_length, List.length_drop]) (by omega) (hr.cellsDrop (mid + 1)) (items_one _)).mono ?_
    rintro e w1 ⟨v', rfl, ho, hb⟩
    obtain ⟨A', c', rfl⟩ := own_slice ho
    exact ⟨A', c', rfl, ho, hb⟩
  have hg := hN.lt
  have hq : q < W.heap.size := (hN.r0.lt q rfl).2
  have c0 := hN.c0
  have c1 := hN.c1
  have hk := (hN.r0.cellAt (mid * 2) (by omega)).trans (itemCells_get0 its mid hmn)
  have hv := (hN.r0.cellAt (mid * 2 + 1) (by omega)).trans (itemCells_get1 its mid hmn)
  have hx' : its[mid] = x := by rw [List.getElem?_eq_getElem hmn] at hx; exact Option.some.inj hx
  rw [hx'] at hk hv
  obtain ⟨xk, xv⟩ := x
  have HF := Lib.hid hfin
  have HN := Lib.hid hN
  have HS := Lib.hid h
  obtain ⟨n, hl⟩ : ∃ n, its.length = n := ⟨_, rfl⟩
  have HL := Lib.hid hl
  have HB : Hid (∀ x, W.heap.size ≤ x → x ∉ g :: blocks (.slice (some ⟨q, 0, none⟩) n c) (.slice B 0 d)) := fun x hle hx => by
    rcases List.mem_cons.1 hx with e | e
    · omega
    · have := (hN.ltb x e).1; omega
  rw [hl] at CD CC HN HF c0 hmid hlo hmn hq1 hn
  have hmi : (n : Int) / 2 = (mid : Int) := by omega
  have b1 : (mid : Int) < 1000 := by omega
  have b2 : (mid : Int) < (n : Int) := by omega
  have b3 : (mid : Int) + 1 ≤ (n : Int) := by omega
  have b4 : ¬ c = mid + 1 := by omega
  have b5 : IntKind.i64.wrap ((mid : Int) + 1) = (mid : Int) + 1 := by rw [IntKind.wrap_i64]; omega
  have b6 : (0 : Int) ≤ (mid : Int) + 1 := by omega
  have b7 : ((mid : Int) + 1).toNat = mid + 1 := by omega
  clear hN hfin hF h hm hmid hn hq1 hq2 hl hx hx' hlo
  unfold ptr at *
  go_enter Tryz.func117, Tryz.ntmps117
  go_wp2_with (go_at_call 122; ((with_reducible refine (CC.out _ (((Touch.refl _ _).alloc _).alloc _)).mono ?_); rintro e w1 ⟨A', c', rfl, ho, hb1⟩; have HO := Lib.hid ho; have HB1 := Lib.hid hb1; have HT1 : Hid (Touch [] W w1) := (((Touch.refl _ _).alloc _).alloc _).trans (Touch.ofBelow (F := []) hb1) (by simp); have hz1 : W.heap.size + 1 < w1.heap.size := Nat.lt_of_lt_of_le (by simp) hb1.size; have r0 := ((Box2.fresh W (.string ⟨#[]⟩) (.string ⟨#[]⟩) 31).touch ((Touch.refl [] _).alloc (.cells #[.string xk, .string xv] 31)) (by simp)).touch (Touch.ofBelow (F := []) hb1) (by simp); have r1 : Box2 w1 (W.heap.size + 1) _ _ := (Box2.freshAt (W.alloc (.cells #[.string ⟨#[]⟩, .string ⟨#[]⟩] 31)) (.string xk) (.string xv) 31 (by simp)).touch (Touch.ofBelow (F := []) hb1) (by simp); have rg := (HN.out.new (((Touch.refl _ _).alloc _).alloc _)).box.touch (Touch.ofBelow (F := []) hb1) (by simp); have HR0 := Lib.hid r0; have HR1 := Lib.hid r1; obtain ⟨g1, g2, g3, g4, g5⟩ := rg; clear ho hb1 r0 r1))
  go_region_with (go_at_call 131; ((with_reducible refine (CD.out _ (HN.out.new ((HT1.out.alloc _).drew))).mono ?_); rintro e w2 ⟨n1, rfl, hS2⟩; have sc := hS2.c; have sf := hS2.f; obtain ⟨sc1, sf1⟩ := hS2.other; obtain ⟨x1, x2, x3, x4, x5⟩ := hS2.box (HR0.out.touch ((Touch.refl [] _).alloc _).drew (by simp)) (HB.out _ (Nat.le_refl _)); obtain ⟨y1, y2, y3, y4, y5⟩ := hS2.box (HR1.out.touch ((Touch.refl [] _).alloc _).drew (by simp)) (HB.out _ (by omega)); have HS2 := Lib.hid hS2; clear hS2))
  all_goals
    go_wp2
    exact bodyPost_ret (v := .tuple #[.agg #[.string xk, .string xv], .pointer (some ⟨w1.heap.size, 0, none⟩)]) (by simp [results, Tryz.results117, go_sem, x2, x3]) rfl
      ⟨w1.heap.size, split_leaf_end HS.out HF.out HN.out (((Touch.refl _ _).alloc _).alloc _) HO.out (by rw [List.length_drop, HL.out]) HB1.out HS2.out HL.out (Nat.le_refl _) (by simp; omega) (((Touch.refl _ _).set (.inl (by simp)) _).set (.inl (by simp)) _)⟩
end Go.Proofs.YthgndgoljchnfaaGreat
namespace Go.Proofs.YthgndgoljchnfaaGreat
open Go.RowKit

theorem grown_of_below {a b : World} (h : Below a.heap.size a b) (row : Option Nat) : a.grownBy b row := ⟨h.os, h.tape, h.output, h.size, fun k hk _ => h.block k hk⟩
theorem NdX.apart {W : World} {g b o : Nat} {its : List Item} {ps : List Nat} {v u x : Value} (h : NdX W g its ps v u) (hb : b ∉ g :: blocks v u) : NdX (W.setCell ⟨b, o, none⟩ x) g its ps v u :=
  h.touch ((Touch.refl [b] _).set (.inl (by simp)) _) (by simp only [List.mem_singleton]; exact fun e => hb (by rw [e]; simp)) (fun y hy e => hb (by rw [List.mem_singleton] at e; rw [← e]; exact List.mem_cons_of_mem _ hy))
theorem split_above_end {W Wc w1 w2 w3 w4 w5 : World} {m : NMap} {F : List Nat} {g q c mid n k n1 q2 d n2 n3 k2 : Nat} {its : List Item} {ps : List Nat} {vc uc : Value} {r : Value} {T : TypeId}
    (hS : Sto W m F) (hT : NTurns W m F g (.slice (some ⟨q, 0, none⟩) n c) (.slice (some ⟨q2, 0, none⟩) n2 d)) (hN : NdX W g its ps (.slice (some ⟨q, 0, none⟩) n c) (.slice (some ⟨q2, 0, none⟩) n2 d))
    (hc : Touch [] W Wc) (ho : w1.ownsRow Wc.heap.size 31 2 vc k (itemCells (its.drop (mid + 1)))) (hk : (its.drop (mid + 1)).length = k) (hb : Below Wc.heap.size Wc w1)
    (h2 : Set0 (w1.alloc (.cells #[vc, .slice none 0 0] T)).drew w2 g (its.take mid ++ its.drop n) ps (.slice (some ⟨q, 0, none⟩) n c) (.slice (some ⟨q2, 0, none⟩) n2 d) (.slice (some ⟨q, 0, none⟩) n1 c)) (hn : its.length = n)
    (ho3 : w3.ownsRow (w2.setCell ⟨g, 0, none⟩ (.slice (some ⟨q, 0, none⟩) n1 c)).heap.size 101 1 uc k2 (ptrCells (ps.drop (mid + 1)))) (hk2 : (ps.drop (mid + 1)).length = k2)
    (hb3 : Below (w2.setCell ⟨g, 0, none⟩ (.slice (some ⟨q, 0, none⟩) n1 c)).heap.size (w2.setCell ⟨g, 0, none⟩ (.slice (some ⟨q, 0, none⟩) n1 c)) w3)
    (h4 : Set1 (w3.setCell ⟨w1.heap.size, 1, none⟩ uc).drew w4 g (its.take mid ++ its.drop n) (ps.take (mid + 1) ++ ps.drop n2) (.slice (some ⟨q, 0, none⟩) n1 c) (.slice (some ⟨q2, 0, none⟩) n2 d) (.slice (some ⟨q2, 0, none⟩) n3 d)) (hn2 : ps.length = n2)
    {z : Nat} (hz : W.heap.size ≤ z) (hz2 : z < Wc.heap.size) (h5 : Touch [z] (w4.setCell ⟨g, 1, none⟩ (.slice (some ⟨q2, 0, none⟩) n3 d)) w5) :
    W.heap.size ≤ w1.heap.size ∧ StoPost W F (upd (upd m g ⟨its.take mid, ps.take (mid + 1)⟩) w1.heap.size ⟨its.drop (mid + 1), ps.drop (mid + 1)⟩) r (.returned r) w5 := by
  have e : its.take mid ++ its.drop n = its.take mid := by rw [List.drop_of_length_le (by omega), List.append_nil]
  have e' : ps.take (mid + 1) ++ ps.drop n2 = ps.take (mid + 1) := by rw [List.drop_of_length_le (by omega), List.append_nil]
  rw [e] at h2
  rw [e, e'] at h4
  have hg := hN.lt
  have hbl : ∀ x, x ∈ blocks (.slice (some ⟨q, 0, none⟩) n c) (.slice (some ⟨q2, 0, none⟩) n2 d) → x < W.heap.size := fun x hx => (hN.ltb x hx).1
  have t1 : Touch [] W w1 := hc.trans (Touch.ofBelow (F := []) hb) (by simp)
  have t2 : Touch [] W (w1.alloc (.cells #[vc, .slice none 0 0] T)).drew := (t1.alloc _).drew
  have hgb : ∀ x, x ∈ g :: blocks (.slice (some ⟨q, 0, none⟩) n c) (.slice (some ⟨q2, 0, none⟩) n2 d) → x < W.heap.size := fun x hx => by
    rcases List.mem_cons.1 hx with e | e
    · omega
    · exact hbl x e
  have hvc : ∀ x, x ∈ blocks vc (.slice none 0 0) → Wc.heap.size ≤ x ∧ x < w1.heap.size := fun x hx => by
    rcases mem_blocks.1 hx with e | e
    · exact ho.lt x e
    · cases e
  have s1 : W.heap.size ≤ Wc.heap.size := hc.size
  have s2 : Wc.heap.size ≤ w1.heap.size := hb.size
  have s3 : w1.heap.size < (w2.setCell ⟨g, 0, none⟩ (.slice (some ⟨q, 0, none⟩) n1 c)).heap.size := Nat.lt_of_lt_of_le (by show w1.heap.size < (w1.alloc _).heap.size; simp) h2.t.size
  generalize hV : w2.setCell ⟨g, 0, none⟩ (.slice (some ⟨q, 0, none⟩) n1 c) = V at *
  have f1 : NdX (w1.alloc (.cells #[vc, .slice none 0 0] T)).drew w1.heap.size (its.drop (mid + 1)) [] vc (.slice none 0 0) :=
    (NdX.fresh T ho hk rfl (World.ownsRow_nil _ 0 _ _) rfl rfl (fun q _ e => by cases e)).drew
  have h2t : Touch (g :: blocks (.slice (some ⟨q, 0, none⟩) n c) (.slice (some ⟨q2, 0, none⟩) n2 d)) (w1.alloc (.cells #[vc, .slice none 0 0] T)).drew V := by rw [← hV]; exact h2.t
  have g2 : NdX V g (its.take mid) ps (.slice (some ⟨q, 0, none⟩) n1 c) (.slice (some ⟨q2, 0, none⟩) n2 d) := by rw [← hV]; exact h2.nd
  have f2 := f1.touch h2t (fun e => by have := hgb _ e; omega) (fun x hx e => by have := hgb _ e; have := (hvc x hx).1; omega)
  obtain ⟨f3, t3, b3⟩ := f2.set1 (ps' := ps.drop (mid + 1)) (grown_of_below hb3 _) (by rw [hk2]; exact own_mono ho3 (Nat.zero_le _)) (fun x hx => .inr (ho3.lt x hx).1)
  have hbc : ∀ x, x ∈ w1.heap.size :: blocks vc (.slice none 0 0) → Wc.heap.size ≤ x := fun x hx => by
    rcases List.mem_cons.1 hx with e | e
    · omega
    · exact (hvc x e).1
  have hb4 : ∀ x, x ∈ g :: blocks (.slice (some ⟨q, 0, none⟩) n1 c) (.slice (some ⟨q2, 0, none⟩) n2 d) → x < W.heap.size := fun x hx => hgb x hx
  have hvu : ∀ x, x ∈ blocks vc uc → Wc.heap.size ≤ x := fun x hx => by
    rcases b3 x hx with e | e
    · exact (hvc x e).1
    · omega
  have f4 := f3.drew.touch h4.t (fun e => by have := hb4 _ e; omega) (fun x hx e => by have := hb4 _ e; have := hvu x hx; omega)
  have hvz : ∀ x, x ∈ blocks vc uc → x ≠ z := fun x hx => by
    have := hvu x hx
    omega
  have f5 := f4.touch h5 (by simp; omega) (fun x hx => by simpa using hvz x hx)
  have g5 := h4.nd.touch h5 (by simp; omega) (fun x hx => by
    have e3 : x < W.heap.size := hbl x hx
    simp; omega)
  have tf : Touch (g :: blocks (.slice (some ⟨q, 0, none⟩) n c) (.slice (some ⟨q2, 0, none⟩) n2 d)) W w5 :=
    ((((t2.mono (by simp)).trans h2t (fun x hx => .inl hx)).trans t3.drew (fun x hx => .inr (Nat.le_trans s1 (hbc x hx)))).trans h4.t (fun x hx => .inl hx)).trans h5 (fun x hx => .inr (by simp at hx; omega))
  obtain ⟨a, b⟩ := NTurns.two hS hT g5 f5 tf (fun x hx => ⟨hbl x hx, hx⟩) (by omega) (fun x hx => by have := hvu x hx; omega)
  exact ⟨by omega, rfl, _, a, b⟩

set_option maxRecDepth 100000 in
set_option maxHeartbeats 8000000 in
theorem split_above (g : Nat) {its : List Item} {ps : List Nat} {m : NMap} {F : List Nat} (W : World) (h : Sto W m F) (hm : m g = some ⟨its, ps⟩) (mid : Nat) (hmid : its.length / 2 = mid) (hlo : mid + 1 < its.length) (hn : its.length ≤ 1000) (hp : mid + 1 < ps.length) (hpn : ps.length ≤ 1000) (x : Item) (hx : its[mid]? = some x) :
    Calls Tryz.prog 117 #[ptr g] W fun e w => ∃ b, W.heap.size ≤ b ∧ StoPost W F (upd (upd m g ⟨its.take mid, ps.take (mid + 1)⟩) b ⟨its.drop (mid + 1), ps.drop (mid + 1)⟩) (.tuple #[.agg #[.string x.1, .string x.2], ptr b]) e w := by
  obtain ⟨v0, u0, hN, hF, hfin⟩ := h.at hm
  have hN : NdX W g its ps v0 u0 := hN
  obtain ⟨q, c, rfl, hq1, hq2⟩ := row_at hN.r0 (by omega)
  obtain ⟨q2, d, rfl, hq3, hq4⟩ := row_at hN.r1 (by omega)
  have hmn : mid < its.length := by omega
  have CD : Hid (∀ V, NdX V g its ps (.slice (some ⟨q, 0, none⟩) its.length c) (.slice (some ⟨q2, 0, none⟩) ps.length d) → Calls Tryz.prog 131 #[.slice (some ⟨q, 0, none⟩) its.length c, .int .i64 (mid : Nat), .int .i64 (its.length : Nat)] V fun e w1 => ∃ n, e = .returned (.slice (some ⟨q, 0, none⟩) n c) ∧ Set0 V w1 g (its.take mid ++ its.drop its.length) ps (.slice (some ⟨q, 0, none⟩) its.length c) (.slice (some ⟨q2, 0, none⟩) ps.length d) (.slice (some ⟨q, 0, none⟩) n c)) :=
    fun V hV => delItems_call g mid its.length q c V hV (by omega) (Nat.le_refl _) hn
  have CN : Hid (∀ V v1 its1, NdX V g its1 ps v1 (.slice (some ⟨q2, 0, none⟩) ps.length d) → Calls Tryz.prog 133 #[.slice (some ⟨q2, 0, none⟩) ps.length d, .int .i64 ((mid : Int) + 1), .int .i64 (ps.length : Nat)] V fun e w1 => ∃ n, e = .returned (.slice (some ⟨q2, 0, none⟩) n d) ∧ Set1 V w1 g its1 (ps.take (mid + 1) ++ ps.drop ps.length) v1 (.slice (some ⟨q2, 0, none⟩) ps.length d) (.slice (some ⟨q2, 0, none⟩) n d)) :=
    fun V v1 its1 hV => delNodes_call g (mid + 1) ps.length q2 d V hV (by omega) (Nat.le_refl _) hpn
  have CC : Hid (∀ Wc, Touch [] W Wc → Calls Tryz.prog 122 #[.slice (some ⟨q, (mid + 1) * 2, none⟩) (its.length - (mid + 1)) (c - (mid + 1))] Wc fun e w1 => ∃ A' c', e = .returned (.slice A' (its.length - (mid + 1)) c') ∧ w1.ownsRow Wc.heap.size 31 2 (.slice A' (its.length - (mid + 1)) c') (its.length - (mid + 1)) (itemCells (its.drop (mid + 1))) ∧ Below Wc.heap.size Wc w1) := by
    intro Wc ht
    have hr : Row Wc (.slice (some ⟨q, 0, none⟩) its.length c) its := (hN.new ht).r0
    refine (cloneItems_any q ((mid + 1) * 2) (its.length - (mid + 1)) (c - (mid + 1)) (itemCells (its.drop (mid + 1))) Wc (by rw [itemCells_length, List.length_drop]) (by omega) (hr.cellsDrop (mid + 1)) (items_one _)).mono ?_
    rintro e w1 ⟨v', rfl, ho, hb⟩
    obtain ⟨A', c', rfl⟩ := own_slice ho
    exact ⟨A', c', rfl, ho, hb⟩
  have CE : Hid (∀ V v1 its1, NdX V g its1 ps v1 (.slice (some ⟨q2, 0, none⟩) ps.length d) → Calls Tryz.prog 132 #[.slice (some ⟨q2, mid + 1, none⟩) (ps.length - (mid + 1)) (d - (mid + 1))] V fun e w1 => ∃ A' c', e = .returned (.slice A' (ps.length - (mid + 1)) c') ∧ w1.ownsRow V.heap.size 101 1 (.slice A' (ps.length - (mid + 1)) c') (ps.length - (mid + 1)) (ptrCells (ps.drop (mid + 1))) ∧ Below V.heap.size V w1) := by
    intro V v1 its1 hV
    refine (cloneNodes_any q2 (mid + 1) (ps.length - (mid + 1)) (d - (mid + 1)) (ptrCells (ps.drop (mid + 1))) V (by rw [ptrCells_length, List.length_drop, Nat.mul_one]) (by omega) (fun j y hj => ?_) (ptr_one _)).mono ?_
    · have hlt : j < (ptrCells (ps.drop (mid + 1))).length := (List.getElem?_eq_some_iff.1 hj).1
      rw [ptrCells_length, List.length_drop] at hlt
      rw [Go.WideShapes.add_plain, hV.r1.cellAt (mid + 1 + j) (by omega), ← hj, ptrCells, ptrCells, List.getElem?_map, List.getElem?_map, List.getElem?_drop]
    · rintro e w1 ⟨v', rfl, ho, hb⟩
      obtain ⟨A', c', rfl⟩ := own_slice ho
      exact ⟨A', c', rfl, ho, hb⟩
  have hg := hN.lt
  have hq : q < W.heap.size := (hN.r0.lt q rfl).2
  have c0 := hN.c0
  have c1 := hN.c1
  have hk := (hN.r0.cellAt (mid * 2) (by omega)).trans (itemCells_get0 its mid hmn)
  have hv := (hN.r0.cellAt (mid * 2 + 1) (by omega)).trans (itemCells_get1 its mid hmn)
  have hx' : its[mid] = x := by rw [List.getElem?_eq_getElem hmn] at hx; exact Option.some.inj hx
  rw [hx'] at hk hv
  obtain ⟨xk, xv⟩ := x
  have HF := Lib.hid hfin
  have HN := Lib.hid hN
  have HS := Lib.hid h
  obtain ⟨n, hl⟩ : ∃ n, its.length = n := ⟨_, rfl⟩
  obtain ⟨n', hl'⟩ : ∃ n', ps.length = n' := ⟨_, rfl⟩
  have HL := Lib.hid hl
  have HL' := Lib.hid hl'
  have HB : Hid (∀ x, W.heap.size ≤ x → x ∉ g :: blocks (.slice (some ⟨q, 0, none⟩) n c) (.slice (some ⟨q2, 0, none⟩) n' d)) := fun x hle hx => by
    rcases List.mem_cons.1 hx with e | e
    · omega
    · have := (hN.ltb x e).1; omega
  rw [hl] at CD CC HN HF c0 hmid hlo hmn hq1 hn
  rw [hl'] at CD CN CE HN HF c1 hp hpn hq3
  have hmi : (n : Int) / 2 = (mid : Int) := by omega
  have b1 : (mid : Int) < 1000 := by omega
  have b2 : (mid : Int) < (n : Int) := by omega
  have b3 : (mid : Int) + 1 ≤ (n : Int) := by omega
  have b4 : ¬ c = mid + 1 := by omega
  have b5 : IntKind.i64.wrap ((mid : Int) + 1) = (mid : Int) + 1 := by rw [IntKind.wrap_i64]; omega
  have b6 : (0 : Int) ≤ (mid : Int) + 1 := by omega
  have b7 : ((mid : Int) + 1).toNat = mid + 1 := by omega
  have b8 : (0 : Int) < (n' : Int) := by omega
  have b9 : (mid : Int) + 1 ≤ (n' : Int) := by omega
  have b10 : ¬ d = mid + 1 := by omega
  clear hN hfin hF h hm hmid hn hq1 hq2 hq3 hq4 hp hpn hl hl' hx hx' hlo
  unfold ptr at *
  go_enter Tryz.func117, Tryz.ntmps117
  go_wp2_with (go_at_call 122; ((with_reducible refine (CC.out _ (((Touch.refl _ _).alloc _).alloc _)).mono ?_); rintro e w1 ⟨A', c', rfl, ho, hb1⟩; have HO := Lib.hid ho; have HB1 := Lib.hid hb1; have HT1 : Hid (Touch [] W w1) := (((Touch.refl _ _).alloc _).alloc _).trans (Touch.ofBelow (F := []) hb1) (by simp); have hz1 : W.heap.size + 1 < w1.heap.size := Nat.lt_of_lt_of_le (by simp) hb1.size; have r0 := ((Box2.fresh W (.string ⟨#[]⟩) (.string ⟨#[]⟩) 31).touch ((Touch.refl [] _).alloc (.cells #[.string xk, .string xv] 31)) (by simp)).touch (Touch.ofBelow (F := []) hb1) (by simp); have r1 : Box2 w1 (W.heap.size + 1) _ _ := (Box2.freshAt (W.alloc (.cells #[.string ⟨#[]⟩, .string ⟨#[]⟩] 31)) (.string xk) (.string xv) 31 (by simp)).touch (Touch.ofBelow (F := []) hb1) (by simp); have rg := (HN.out.new (((Touch.refl _ _).alloc _).alloc _)).box.touch (Touch.ofBelow (F := []) hb1) (by simp); have HR0 := Lib.hid r0; have HR1 := Lib.hid r1; obtain ⟨g1, g2, g3, g4, g5⟩ := rg; clear ho hb1 r0 r1))
  go_region_with (go_at_call 131; ((with_reducible refine (CD.out _ (HN.out.new ((HT1.out.alloc _).drew))).mono ?_); rintro e w2 ⟨n1, rfl, hS2⟩; have sc := hS2.c; have sf := hS2.f; obtain ⟨sc1, sf1⟩ := hS2.other; have HX := Lib.hid ((HR0.out.touch ((Touch.refl [] _).alloc _).drew (by simp)).touch hS2.t (HB.out _ (Nat.le_refl _))); have HY := Lib.hid ((HR1.out.touch ((Touch.refl [] _).alloc _).drew (by simp)).touch hS2.t (HB.out _ (by omega))); have HZ := Lib.hid (((Box2.fresh w1 _ _ _).touch (Touch.refl [] _).drew (by simp)).touch hS2.t (HB.out _ (by omega))); have HS2 := Lib.hid hS2; clear hS2))
  all_goals
    go_wp2_with (go_at_call 132; ((with_reducible refine (CE.out _ _ _ HS2.out.nd).mono ?_); rintro e w3 ⟨A3, c3, rfl, ho3, hb3⟩; have tb3 := Touch.ofBelow (F := []) hb3; obtain ⟨k1, k2, k3, k4, k5⟩ := HZ.out.touch tb3 (by simp); obtain ⟨m1, m2, m3, m4, m5⟩ := HS2.out.nd.box.touch tb3 (by simp); have HX3 := Lib.hid (HX.out.touch tb3 (by simp)); have HY3 := Lib.hid (HY.out.touch tb3 (by simp)); have HN3 := Lib.hid (HS2.out.nd.new tb3); have HO3 := Lib.hid ho3; have HB3 := Lib.hid hb3; clear ho3 hb3 tb3))
    go_region_with (go_at_call 133; ((with_reducible refine (CN.out _ _ _ ((HN3.out.apart (HB.out _ (by omega))).drew)).mono ?_); rintro e w4 ⟨n4, rfl, hS4⟩; have sc4 := hS4.c; have sf4 := hS4.f; obtain ⟨x1, x2, x3, x4, x5⟩ := hS4.box ((HX3.out.touch ((Touch.refl [w1.heap.size] _).set (.inl (by simp)) _) (by simp; omega)).touch (Touch.refl [] _).drew (by simp)) (HB.out _ (Nat.le_refl _)); obtain ⟨y1, y2, y3, y4, y5⟩ := hS4.box ((HY3.out.touch ((Touch.refl [w1.heap.size] _).set (.inl (by simp)) _) (by simp; omega)).touch (Touch.refl [] _).drew (by simp)) (HB.out _ (by omega)); have HS4 := Lib.hid hS4; clear hS4))
    all_goals
      go_wp2
      exact bodyPost_ret (v := .tuple #[.agg #[.string xk, .string xv], .pointer (some ⟨w1.heap.size, 0, none⟩)]) (by simp [results, Tryz.results117, go_sem, x2, x3]) rfl
        ⟨w1.heap.size, split_above_end HS.out HF.out HN.out (((Touch.refl _ _).alloc _).alloc _) HO.out (by rw [List.length_drop, HL.out]) HB1.out HS2.out HL.out HO3.out (by rw [List.length_drop, HL'.out]) HB3.out HS4.out HL'.out (Nat.le_refl _) (by simp; omega) (((Touch.refl _ _).set (.inl (by simp)) _).set (.inl (by simp)) _)⟩
end Go.Proofs.YthgndgoljchnfaaGreat
