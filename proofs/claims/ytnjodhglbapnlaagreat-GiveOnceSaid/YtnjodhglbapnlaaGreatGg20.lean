import Derived.Test.YtnjodhglbapnlaaGreatGg18
import Derived.Test.YtnjodhglbapnlaaGreatGg13
set_option maxRecDepth 100000
set_option maxHeartbeats 16000000
namespace Go.Proofs.YtnjodhglbapnlaaGreat
open Go.RowKit
theorem yda {W : World} {b c : Nat} {A : Option Addr} {st : List (Nat × Nat)} {g i : Nat} (h : WRow W b (.slice A (st ++ [(g, i)]).length c) (st ++ [(g, i)])) :
  ∃ q, A = some ⟨q, 0, none⟩ ∧ W.cell? ⟨q, st.length * 2, none⟩ = some (.pointer (some ⟨g, 0, none⟩)) ∧ W.cell? ⟨q, st.length * 2 + 1, none⟩ = some (.int .i64 (i : Nat)) ∧ b ≤ q ∧ q < W.heap.size ∧ st.length + 1 ≤ c ∧ c ≤ maxLen := by
 have hl : (st ++ [(g, i)]).length = st.length + 1 := by simp
 have hown : W.ownsRow b 232 2 (.slice A (st ++ [(g, i)]).length c) (st ++ [(g, i)]).length (ya1 (st ++ [(g, i)])) := h
 rcases hown.2 with ⟨h0, h1⟩ | ⟨q, cap, cur, h0, h1, h2, h3, h4, _⟩
 ·omega
 ·injection h0 with e1 e2 e3
  subst e1 e3
  have z := hown.cellAt (st.length * 2) (by omega)
  have z2 := hown.cellAt (st.length * 2 + 1) (by omega)
  have zl := yim st
  rw [yfw, List.getElem?_append_right (by omega), zl] at z z2
  exact ⟨q, rfl, by rw [z]; simp [ya1], by rw [z2, show st.length * 2 + 1 - st.length * 2 = 1 by omega]; simp [ya1], h1, (Array.getElem?_eq_some_iff.1 h2).1, by omega, h4⟩
def ywy (W : World) (m : NMap) (top : Option Nat) (l : List Item) (k : ByteArray) (e : Ending) (w : World) : Prop :=
 ∃ st g i u q c, e = .returned (.tuple #[.slice (some ⟨q, 0, none⟩) (st.length + 1) c, .bool true]) ∧ WRow w W.heap.size (.slice (some ⟨q, 0, none⟩) (st ++ [(g, i)]).length c) (st ++ [(g, i)]) ∧ Below W.heap.size W w ∧ Found m top l k u st g i
def ywz (W : World) (m : NMap) (top : Option Nat) (l : List Item) (k : ByteArray) (e : Ending) (w : World) : Prop :=
 ∃ steps A c, e = .returned (.tuple #[.slice A steps.length c, .bool false]) ∧ WRow w W.heap.size (.slice A steps.length c) steps ∧ Below W.heap.size W w ∧ yeg m top l k steps
theorem ykp {W : World} {gs : Nat} {top : Option Nat} {n most : Int} {m : NMap} {F : List Nat} {l : List Item} {k : ByteArray} (hX : ShX W gs top n most) (hS : Sto W m F) (hT : ybu m top l) (hr : yah l) (hl : l.length ≤ 200) (hh : hasN l k = true) :
  Calls Tryz.prog 182 #[.pointer (some ⟨gs, 0, none⟩), .string k] W (ywy W m top l k) := by
 refine (yoj k hX hS hT hr hl).mono ?_
 rintro e w ⟨steps, A, c, b, rfl, hO, hB, ⟨rfl, st, g, i, u, rfl, hF⟩ | ⟨rfl, hM⟩⟩
 ·obtain ⟨q, rfl, -⟩ := yda hO
  exact ⟨st, g, i, u, q, c, by rw [List.length_append]; rfl, hO, hB, hF⟩
 ·rw [(hM.put ByteArray.empty).1] at hh; cases hh
theorem yin {W : World} {gs : Nat} {top : Option Nat} {n most : Int} {m : NMap} {F : List Nat} {l : List Item} {k : ByteArray} (hX : ShX W gs top n most) (hS : Sto W m F) (hT : ybu m top l) (hr : yah l) (hl : l.length ≤ 200) (hh : hasN l k = false) :
  Calls Tryz.prog 182 #[.pointer (some ⟨gs, 0, none⟩), .string k] W (ywz W m top l k) := by
 refine (yoj k hX hS hT hr hl).mono ?_
 rintro e w ⟨steps, A, c, b, rfl, hO, hB, ⟨rfl, st, g, i, u, rfl, hF⟩ | ⟨rfl, hM⟩⟩
 ·obtain ⟨_, _, _, _, h1, _⟩ := hF.cut
  rw [h1] at hh; cases hh
 ·exact ⟨steps, A, c, rfl, hO, hB, hM⟩
theorem Found.get {m : NMap} {top : Option Nat} {l : List Item} {k u : ByteArray} {steps : List (Nat × Nat)} {g i : Nat} (h : Found m top l k u steps g i) : getN l k = u := by
 obtain ⟨A, B, rfl, hA, _⟩ := h.cut
 have p : yai (A ++ (k, u) :: B) k = A.length := by rw [yf8 hA, yai, yc1]; rfl
 simp [getN, p]
theorem yw0 (W : World) {m : NMap} {F : List Nat} (hS : Sto W m F) {g i : Nat} {its : List Item} {ps : List Nat} (hm : m g = some ⟨its, ps⟩) {x : Item} (hx : its[i]? = some x) :
  ∃ q, q < W.heap.size ∧ q ∈ F ∧ W.cell? ⟨q, i * 2, none⟩ = some (.string x.1) ∧ W.cell? ⟨q, i * 2 + 1, none⟩ = some (.string x.2) ∧ W.frozen? ⟨q, i * 2, none⟩ = false ∧ W.frozen? ⟨q, i * 2 + 1, none⟩ = false ∧
   Calls Tryz.prog 183 #[.agg #[.pointer (some ⟨g, 0, none⟩), .int .i64 (i : Nat)]] W fun e w' => e = .returned (.pointer (some ⟨q, i * 2, none⟩)) ∧ Below W.heap.size W w' := by
 obtain ⟨hi, rfl⟩ := List.getElem?_eq_some_iff.1 hx
 obtain ⟨v, u, hN, hF, -⟩ := hS.at hm
 have hN : NdX W g its ps v u := hN
 obtain ⟨q, c, rfl, -, -⟩ := ybs hN.r0 (by omega)
 exact ⟨q, (hN.r0.lt q rfl).2, hF q (ybb.2 (.inl rfl)), (hN.r0.cellAt (i * 2) (by omega)).trans (ycc its i hi), (hN.r0.cellAt (i * 2 + 1) (by omega)).trans (yci its i hi), hN.r0.frozenAt _, hN.r0.frozenAt _, ynu g i q c W hN hi⟩
theorem yw1 {W : World} {gs : Nat} {most : Int} {l : List Item} {F : List Nat} (k : ByteArray) (h : SH W gs most l F) :
  Calls Tryz.prog 135 #[.pointer (some ⟨gs, 0, none⟩), .string k] W fun e w' => e = .returned (.tuple #[.string (getN l k), .bool (hasN l k)]) ∧ Below W.heap.size W w' := by
 obtain ⟨top, m, F1, hX, hS, -, -, hT, hr, hlm, hm2⟩ := h
 cases hh : hasN l k
 ·have CW := Lib.hid (yin hX hS hT hr (by omega) hh)
  have hg : getN l k = ByteArray.empty := yu4 hh
  rw [hg]
  clear hX hS hT hr hlm hm2 hh hg
  go_enter Tryz.func135, Tryz.ntmps135
  go_wp2_with (go_at_call 182; ((with_reducible refine (CW.out).mono ?_); rintro e w1 ⟨steps, A, c, rfl, hO, hB, hM⟩; have HB := Lib.hid hB; clear hO hB hM))
  go_ret2
  exact ⟨rfl, HB.out⟩
 ·have CW := Lib.hid (ykp hX hS hT hr (by omega) hh)
  have HS := Lib.hid hS
  obtain ⟨G, hG⟩ : ∃ G, getN l k = G := ⟨_, rfl⟩
  have HG := Lib.hid hG
  rw [hG]
  clear hX hS hT hr hlm hm2 hh hG
  go_enter Tryz.func135, Tryz.ntmps135
  go_wp2_with (first
   | (go_at_call 182; ((with_reducible refine (CW.out).mono ?_); rintro e w1 ⟨st, g, i, u, q, c, rfl, hO, hB, hF⟩; obtain ⟨its, ps, e1, e2, e3, -⟩ := hF.set (v := u); have hu : u = G := hF.get.symm.trans HG.out; subst hu; obtain ⟨q', he, k1, k2, k3, k4, k5, k6⟩ := yda hO; obtain rfl : q = q' := congrArg Addr.block (Option.some.inj he); obtain ⟨qi, j1, j2, j3, j4, j5, j6, j7⟩ := yw0 w1 (HS.out.below hB) e1 e2; have hcl : st.length + 1 ≤ 9223372036854775807 := Nat.le_trans k5 (Nat.le_trans k6 (by unfold maxLen; omega)); obtain ⟨sl, hsl⟩ : ∃ sl, st.length = sl := ⟨_, rfl⟩; rw [hsl] at k1 k2 hcl ⊢; have HB := Lib.hid hB; have CI := Lib.hid j7; clear hO hB hF e1 e2 e3 he j3 j5 j6 j7 k3 k4 k5 k6 hsl))
   | (go_at_call 183; ((with_reducible refine (CI.out).mono ?_); rintro e w2 ⟨rfl, hb2⟩; have j4' := (hb2.cell (p := ⟨qi, i * 2 + 1, none⟩) j1).trans j4; have HB2 : Hid (Below W.heap.size W w2) := acc HB.out hb2; clear hb2)))
  go_ret2
  exact ⟨rfl, HB2.out⟩
def yct (W : World) (gs : Nat) (F : List Nat) (n most : Int) (L : List Item) (r : Value) (e : Ending) (w : World) : Prop :=
 e = .returned r ∧ ∃ top m F', ShX w gs top n most ∧ Sto w m F' ∧ gs ∉ F' ∧ ybu m top L ∧ Touch (gs :: F) W w ∧ ∀ q ∈ F', q ∈ F ∨ W.heap.size ≤ q
theorem yos {W w : World} {gs g : Nat} {top : Option Nat} {n most : Int} {m : NMap} {F : List Nat} {L : List Item} {x : Item} {bh : Option Nat} {v u : Value} {ps : List Nat} (hX : ShX W gs top n most) (hS : Sto W m F) (hgs : gs ∉ F) (hP : ycn m top L [] x bh)
  (hps : ps = ykk top bh) (hb : Below (W.setCell ⟨gs, 0, none⟩ (.pointer (some ⟨g, 0, none⟩))).heap.size (W.setCell ⟨gs, 0, none⟩ (.pointer (some ⟨g, 0, none⟩))) w)
  (hn : NdX w g [x] ps v u) (hg : W.heap.size ≤ g) (hq : ∀ q, q ∈ blocks v u → W.heap.size ≤ q) : yct W gs F n most L (.tuple #[]) (.returned (.tuple #[])) w := by
 have hz : (W.setCell ⟨gs, 0, none⟩ (.pointer (some ⟨g, 0, none⟩))).heap.size = W.heap.size := by simp [World.setCell]
 have t1 : Touch [gs] W (W.setCell ⟨gs, 0, none⟩ (.pointer (some ⟨g, 0, none⟩))) := (Touch.refl _ _).set (.inl (by simp)) _
 have x1 : ShX (W.setCell ⟨gs, 0, none⟩ (.pointer (some ⟨g, 0, none⟩))) gs (some g) n most := hX.set0 (top' := some g)
 have s1 : Sto (W.setCell ⟨gs, 0, none⟩ (.pointer (some ⟨g, 0, none⟩))) m F := hS.touch t1 (fun q hq e => hgs (by simp at e; rw [← e]; exact hq))
 obtain ⟨a, b⟩ := s1.add hn hb (by rw [hz]; exact hg) (by rw [hz]; exact hq)
 have hng : ∀ nd, m g ≠ some nd := fun nd e => by have := hS.lt g (hS.mem e); omega
 have hT := (hP.top (m' := upd m g ⟨[x], ps⟩) hng (by rw [upd_same, hps]) (fun z hz => ya3 _ _ hz)).1
 refine ⟨rfl, some g, _, _, x1.touch (Touch.ofBelow (F := []) hb) (by simp), a, ?_, hT, (t1.mono (by simp)).trans (Touch.ofBelow (F := []) hb) (by simp), fun q hq => ?_⟩
 ·intro e
  rcases List.mem_append.1 e with e | e
  ·exact hgs e
  ·rcases List.mem_cons.1 e with e | e
   ·have := hX.lt; omega
   ·have := hq gs e; have := hX.lt; omega
 ·rcases b.2 q hq with e | e
  ·exact .inl e
  ·exact .inr (by rw [hz] at e; exact e)
theorem yw2 (V : World) (k v : ByteArray) (B : Obj) (T : TypeId) : NdX (((V.alloc B).alloc (.cells #[.string k, .string v] 96)).alloc (.cells #[.slice (some ⟨V.heap.size + 1, 0, none⟩) 1 1, .slice none 0 0] T)) (V.heap.size + 1 + 1) [(k, v)] [] (.slice (some ⟨V.heap.size + 1, 0, none⟩) 1 1) (.slice none 0 0) := by
 have r : ((V.alloc B).alloc (.cells #[.string k, .string v] 96)).ownsRow 0 96 2 (.slice (some ⟨(V.alloc B).heap.size, 0, none⟩) 1 1) 1 (yaa [(k, v)]) := World.ownsRow_lit (V.alloc B) #[.string k, .string v] 1 (Nat.zero_le _) (by unfold maxLen; omega) rfl
 have hz : (V.alloc B).heap.size = V.heap.size + 1 := by simp
 have hz2 : ((V.alloc B).alloc (.cells #[.string k, .string v] 96)).heap.size = V.heap.size + 1 + 1 := by simp
 rw [hz] at r
 have h := NdX.fresh (its := [(k, v)]) (ps := []) T r rfl rfl (World.ownsRow_nil _ 0 _ _) rfl rfl (fun q _ e => by cases e)
 rw [hz2] at h
 exact h
theorem yw3 (V : World) (k v : ByteArray) (t b : Nat) (B : Obj) (T : TypeId) : NdX ((((V.alloc B).alloc (.cells #[.string k, .string v] 96)).alloc (.cells #[.slice (some ⟨V.heap.size + 1, 0, none⟩) 1 1, .slice (some ⟨V.heap.size + 1 + 1 + 1, 0, none⟩) 2 2] T)).alloc (.cells #[.pointer (some ⟨t, 0, none⟩), .pointer (some ⟨b, 0, none⟩)] 209)) (V.heap.size + 1 + 1) [(k, v)] [t, b] (.slice (some ⟨V.heap.size + 1, 0, none⟩) 1 1) (.slice (some ⟨V.heap.size + 1 + 1 + 1, 0, none⟩) 2 2) := by
 have r : ((V.alloc B).alloc (.cells #[.string k, .string v] 96)).ownsRow 0 96 2 (.slice (some ⟨(V.alloc B).heap.size, 0, none⟩) 1 1) 1 (yaa [(k, v)]) := World.ownsRow_lit (V.alloc B) #[.string k, .string v] 1 (Nat.zero_le _) (by unfold maxLen; omega) rfl
 have hz : (V.alloc B).heap.size = V.heap.size + 1 := by simp
 have hz2 : ((V.alloc B).alloc (.cells #[.string k, .string v] 96)).heap.size = V.heap.size + 1 + 1 := by simp
 rw [hz] at r
 obtain ⟨V2, hV2⟩ : ∃ V2, (V.alloc B).alloc (.cells #[.string k, .string v] 96) = V2 := ⟨_, rfl⟩
 rw [hV2] at r hz2 ⊢
 have hb := Box2.freshAt V2 (.slice (some ⟨V.heap.size + 1, 0, none⟩) 1 1) (.slice (some ⟨V.heap.size + 1 + 1 + 1, 0, none⟩) 2 2) T hz2.symm
 have r2 := (r.alloc (.cells #[.slice (some ⟨V.heap.size + 1, 0, none⟩) 1 1, .slice (some ⟨V.heap.size + 1 + 1 + 1, 0, none⟩) 2 2] T)).alloc (.cells #[.pointer (some ⟨t, 0, none⟩), .pointer (some ⟨b, 0, none⟩)] 209)
 obtain ⟨V3, hV3⟩ : ∃ V3, V2.alloc (.cells #[.slice (some ⟨V.heap.size + 1, 0, none⟩) 1 1, .slice (some ⟨V.heap.size + 1 + 1 + 1, 0, none⟩) 2 2] T) = V3 := ⟨_, rfl⟩
 have hz3 : V3.heap.size = V.heap.size + 1 + 1 + 1 := by rw [← hV3]; simp [hz2]
 rw [hV3] at hb r2 ⊢
 have p : (V3.alloc (.cells #[.pointer (some ⟨t, 0, none⟩), .pointer (some ⟨b, 0, none⟩)] 209)).ownsRow 0 209 1 (.slice (some ⟨V3.heap.size, 0, none⟩) 2 2) 2 (yaq [t, b]) := World.ownsRow_lit V3 #[.pointer (some ⟨t, 0, none⟩), .pointer (some ⟨b, 0, none⟩)] 2 (Nat.zero_le _) (by unfold maxLen; omega) rfl
 rw [hz3] at p
 have hb2 := hb.touch ((Touch.refl [] V3).alloc (.cells #[.pointer (some ⟨t, 0, none⟩), .pointer (some ⟨b, 0, none⟩)] 209)) (by simp)
 exact ⟨hb2.lt, hb2.c0, hb2.c1, hb2.f0, hb2.f1, r2, p, fun q e => by have h9 : V.heap.size + 1 = q := Option.some.inj e; omega, fun q e => by have h9 : V.heap.size + 1 + 1 + 1 = q := Option.some.inj e; omega, fun q e e2 => by have h9 : V.heap.size + 1 = q := Option.some.inj e; have h8 : V.heap.size + 1 + 1 + 1 = q := Option.some.inj e2; omega⟩
theorem yw4 (W : World) {gs : Nat} {top : Option Nat} {n most : Int} {m : NMap} {F : List Nat} {L : List Item} {x : Item} {bh : Option Nat} (hX : ShX W gs top n most) (hS : Sto W m F) (hgs : gs ∉ F) (hP : ycn m top L [] x bh) :
  Calls Tryz.prog 203 #[.pointer (some ⟨gs, 0, none⟩), .agg #[.string x.1, .string x.2], ybq bh] W (yct W gs F n most L (.tuple #[])) := by
 have hg := hX.lt
 have hg1 : gs < W.heap.size + 1 := by omega
 have hg2 : gs < W.heap.size + 1 + 1 := by omega
 have hg3 : gs < W.heap.size + 1 + 1 + 1 := by omega
 have c0 := hX.c0
 have f0 := hX.f0
 have HX := Lib.hid hX
 have HS := Lib.hid hS
 have HG := Lib.hid hgs
 have HP := Lib.hid hP
 have hsz : ∀ p : Value, (W.setCell ⟨gs, 0, none⟩ p).heap.size = W.heap.size := fun p => by simp [World.setCell]
 have HZ := Lib.hid hsz
 clear hX hS hgs hsz
 obtain ⟨k, v⟩ := x
 cases bh with
 | none =>
  clear hP
  show Calls Tryz.prog _ #[_, _, .pointer none] W _
  go_enter Tryz.func203, Tryz.ntmps203
  go_wp2
  go_end0
  have z := yw2 (W.setCell ⟨gs, 0, none⟩ (.pointer (some ⟨W.heap.size + 1 + 1, 0, none⟩))) k v (.cells #[.string k, .string v] 96) 244
  rw [HZ.out] at z
  exact yos (g := W.heap.size + 1 + 1) HX.out HS.out HG.out HP.out rfl ((((Below.refl _ _).alloc (Nat.le_refl _) _).alloc (by simp) _).alloc (by simp; omega) _) z (by omega) (fun q hq => by
   rcases ybb.1 hq with e | e
   ·have h9 : W.heap.size + 1 = q := Option.some.inj e; omega
   ·cases e)
 | some b =>
  have ht : ∃ t, top = some t := by
   cases top with
   | none => exact absurd rfl ((hP.top (m' := fun z => if z = W.heap.size then some ⟨[(k, v)], [(none : Option Nat).getD 0, b]⟩ else m z) (g := W.heap.size) (fun nd e => by have := HS.out.lt _ (HS.out.mem e); omega) (by simp [ykk]) (fun z hz => by simp [hz])).2 (by simp))
   | some t => exact ⟨t, rfl⟩
  obtain ⟨t, rfl⟩ := ht
  have k0 : W.cell? ⟨gs, 0, none⟩ = some (.pointer (some ⟨t, 0, none⟩)) := c0
  clear hP c0
  show Calls Tryz.prog _ #[_, _, .pointer (some ⟨b, 0, none⟩)] W _
  go_enter Tryz.func203, Tryz.ntmps203
  go_wp2
  go_end0
  have z := yw3 (W.setCell ⟨gs, 0, none⟩ (.pointer (some ⟨W.heap.size + 1 + 1, 0, none⟩))) k v t b (.cells #[.string k, .string v] 96) 244
  rw [HZ.out] at z
  exact yos (g := W.heap.size + 1 + 1) HX.out HS.out HG.out HP.out rfl (((((Below.refl _ _).alloc (Nat.le_refl _) _).alloc (by simp) _).alloc (by simp; omega) _).alloc (by simp; omega) _) z (by omega) (fun q hq => by
   rcases ybb.1 hq with e | e
   ·have h9 : W.heap.size + 1 = q := Option.some.inj e; omega
   ·have h9 : W.heap.size + 1 + 1 + 1 = q := Option.some.inj e; omega)
theorem yw5 (g i : Nat) (k v : ByteArray) (bh : Option Nat) {its : List Item} {ps : List Nat} {m : NMap} {F : List Nat} (W : World) (h : Sto W m F) (hm : m g = some ⟨its, ps⟩) (hi : i ≤ its.length) (hn : its.length ≤ 1000) (hpn : ps.length ≤ 1000) (hb : bh ≠ none → i + 1 ≤ ps.length) :
  Calls Tryz.prog 201 #[.pointer (some ⟨g, 0, none⟩), .int .i64 (i : Nat), .agg #[.string k, .string v], ybq bh] W (ybt W F (upd m g ⟨ya0 its i (k, v), insB ps i bh⟩) (.tuple #[])) := by
 cases bh with
 | none => exact yvs g i k v W h hm hi hn
 | some b => exact ynz g i b k v W h hm hi hn (hb (by simp)) hpn
theorem Box2.put {W : World} {b : Nat} {x y x' y' : Value} (h : Box2 W b x y) : Box2 ((W.setCell ⟨b, 0, none⟩ x').setCell ⟨b, 1, none⟩ y') b x' y' := by
 obtain ⟨a, b1, c, d, e⟩ := h
 have h1 : (W.setCell ⟨b, 0, none⟩ x').cell? ⟨b, 0, none⟩ = some x' := World.cell?_setCell_same _ _ _ b1
 have h2 : (W.setCell ⟨b, 0, none⟩ x').cell? ⟨b, 1, none⟩ = some y := by rw [World.cell?_setCell_other _ _ _ _ (by simp)]; exact c
 refine ⟨by simpa [World.setCell] using a, by rw [World.cell?_setCell_other _ _ _ _ (by simp)]; exact h1, World.cell?_setCell_same _ _ _ h2, ?_, ?_⟩
 ·rw [World.frozen?_setCell, World.frozen?_setCell]; exact d
 ·rw [World.frozen?_setCell, World.frozen?_setCell]; exact e
def ykq (W : World) (gs : Nat) (F1 : List Nat) (top : Option Nat) (n most : Int) (L : List Item) (A : Option Addr) (c : Nat) (wx : World) (steps : List (Nat × Nat)) (x : Item) (bh : Option Nat) : Prop :=
 ∃ m F, ShX wx gs top n most ∧ Sto wx m F ∧ gs ∉ F ∧ W.heap.size ∉ F ∧ (∀ q, (Value.slice A steps.length c).ownBlock = some q → q ∉ F ∧ q ≠ gs ∧ q ≠ W.heap.size) ∧ ycn m top L steps x bh ∧ WRow wx 0 (.slice A steps.length c) steps ∧
  Box2 wx W.heap.size (.string x.1) (.string x.2) ∧ Touch (gs :: F1) W wx ∧ ∀ q ∈ F, q ∈ F1 ∨ W.heap.size ≤ q
theorem yg1 {a b : World} {F F2 : List Nat} {x : Nat} (h : Stp a F b F2) (hx : x < a.heap.size) (hn : x ∉ F) : x ∉ F2 := fun e => by
 rcases h.2 x e with z | z
 ·exact hn z
 ·omega
theorem yct.of {W wx w : World} {gs : Nat} {F1 F : List Nat} {n most : Int} {L : List Item} {r : Value} {e : Ending} (hT : Touch (gs :: F1) W wx) (hF : ∀ q ∈ F, q ∈ F1 ∨ W.heap.size ≤ q) (h : yct wx gs F n most L r e w) : yct W gs F1 n most L r e w := by
 obtain ⟨h0, top, m, F', a, b, c, d, e1, e2⟩ := h
 refine ⟨h0, top, m, F', a, b, c, d, hT.trans e1 (fun x hx => ?_), fun q hq => ?_⟩
 ·rcases List.mem_cons.1 hx with e | e
  ·exact .inl (by rw [e]; simp)
  ·rcases hF x e with z | z
   ·exact .inl (by simp [z])
   ·exact .inr z
 ·rcases e2 q hq with z | z
  ·exact hF q z
  ·exact .inr (Nat.le_trans hT.size z)
theorem yot {w : World} {b e s c : Nat} {q : Nat} {l : List (Nat × Nat)} {x : Nat × Nat} (hs : s = 2) (h : w.ownsRow b e s (.slice (some ⟨q, 0, none⟩) (l ++ [x]).length c) (l ++ [x]).length (ya1 (l ++ [x]))) : w.ownsRow b e s (.slice (some ⟨q, 0, none⟩) l.length c) l.length (ya1 l) := by
 subst hs
 have z := ygd h l.length (by simp)
 rw [yfw, List.take_left' (yim l)] at z
 exact z
theorem yw6 {W wx w1 : World} {gs : Nat} {F1 F F2 : List Nat} {top : Option Nat} {n most : Int} {L : List Item} {m1 : NMap} {o : Obj} (hX : ShX wx gs top n most) (hgs : gs ∉ F) (hT : Touch (gs :: F1) W wx) (hF : ∀ q ∈ F, q ∈ F1 ∨ W.heap.size ≤ q)
  (hS2 : Sto w1 m1 F2) (hP2 : Stp (wx.alloc o) F w1 F2) (hL : ybu m1 top L) : yct W gs F1 n most L (.tuple #[]) (.returned (.tuple #[])) w1 := by
 refine yct.of hT hF ⟨rfl, top, m1, F2, (hX.touch ((Touch.refl [] _).alloc o) (by simp)).touch hP2.1 hgs, hS2, fun e => ?_, hL, ?_, fun q hq => ?_⟩
 ·rcases hP2.2 gs e with z | z
  ·exact hgs z
  ·have := hX.lt; simp at z; omega
 ·exact (((Touch.refl (gs :: F) wx).alloc o).trans (hP2.1.mono (fun x hx => List.mem_cons_of_mem gs hx)) (fun x hx => .inl hx))
 ·rcases hP2.2 q hq with z | z
  ·exact .inl z
  ·simp at z; exact .inr (by omega)
theorem yw7 {W wx w1 w2 w3 : World} {gs q c : Nat} {F1 F F2 F3 : List Nat} {top : Option Nat} {n most : Int} {L : List Item} {m2 : NMap} {o : Obj} {st : List (Nat × Nat)} {s : Nat × Nat} {x y : Item} {b : Nat} (hX : ShX wx gs top n most) (hlt : gs < W.heap.size) (hgs : gs ∉ F) (hbx : W.heap.size ∉ F)
  (hq : q ∉ F ∧ q ≠ gs ∧ q ≠ W.heap.size) (hR : WRow wx 0 (.slice (some ⟨q, 0, none⟩) (st ++ [s]).length c) (st ++ [s])) (hB : Box2 wx W.heap.size (.string x.1) (.string x.2)) (hT : Touch (gs :: F1) W wx) (hF : ∀ q ∈ F, q ∈ F1 ∨ W.heap.size ≤ q)
  (hP2 : Stp (wx.alloc o) F w1 F2) (hP3 : Stp w1 F2 w2 F3) (hS3 : Sto w2 m2 F3) (hP : ycn m2 top L st y (some b)) (h3 : w3 = (w2.setCell ⟨W.heap.size, 0, none⟩ (.string y.1)).setCell ⟨W.heap.size, 1, none⟩ (.string y.2)) :
  ykq W gs F1 top n most L (some ⟨q, 0, none⟩) c w3 st y (some b) := by
 subst h3
 have hP23 := hP2.trans hP3
 have hqw : q < wx.heap.size := (hR.lt q rfl).2
 have hbw : W.heap.size < wx.heap.size := hB.lt
 have hX1 := hX.touch ((Touch.refl [] _).alloc o) (by simp)
 have hR1 := hR.alloc o
 have hB1 := hB.touch ((Touch.refl [] _).alloc o) (by simp)
 have t3 : Touch [W.heap.size] w2 ((w2.setCell ⟨W.heap.size, 0, none⟩ (.string y.1)).setCell ⟨W.heap.size, 1, none⟩ (.string y.2)) := ((Touch.refl _ _).set (.inl (by simp)) _).set (.inl (by simp)) _
 have hn3 : ∀ z, z < wx.heap.size → z ∉ F → z ∉ F3 := fun z h1 h2 h3 => by
  rcases hP23.2 z h3 with e | e
  ·exact h2 e
  ·simp at e; omega
 have hgw := hX.lt
 refine ⟨m2, F3, (hX1.touch hP23.1 hgs).touch t3 (by simp; omega), hS3.touch t3 (fun z hz e => hn3 _ hbw hbx (by simp at e; rw [← e]; exact hz)), hn3 gs hgw hgs, hn3 _ hbw hbx, fun q' e => ?_, hP, ?_, (hB1.touch hP23.1 hbx).put, ?_, fun z hz => ?_⟩
 ·obtain rfl : q = q' := Option.some.inj e
  exact ⟨hn3 q hqw hq.1, hq.2⟩
 ·have r1 := hP23.1.row hR1 (fun q' e => by
   have e9 : q = q' := Option.some.inj e
   rw [← e9]; exact hq.1)
  have r2 := t3.row r1 (fun q' e => by
   have e9 : q = q' := Option.some.inj e
   rw [← e9]; simpa using hq.2.2)
  exact yot rfl r2
 ·have z1 : Touch (gs :: F) wx w2 := ((Touch.refl (gs :: F) wx).alloc o).trans (hP23.1.mono (fun x hx => List.mem_cons_of_mem gs hx)) (fun x hx => .inl hx)
  refine (hT.trans z1 (fun z hz => ?_)).trans t3 (fun z hz => by simp at hz; exact .inr (by omega))
  rcases List.mem_cons.1 hz with e | e
  ·exact .inl (by rw [e]; simp)
  ·rcases hF z e with e | e
   ·exact .inl (by simp [e])
   ·exact .inr e
 ·rcases hP23.2 z hz with e | e
  ·exact hF z e
  ·simp at e; exact .inr (by omega)
theorem yw8 (W : World) {gs c0 : Nat} {top : Option Nat} {n most : Int} {m : NMap} {F1 : List Nat} {L : List Item} {A : Option Addr} {steps0 : List (Nat × Nat)} {x0 : Item} (hX : ShX W gs top n most) (hS : Sto W m F1) (hgs : gs ∉ F1) (hn : 0 ≤ n) (hn2 : n ≤ 1000) (hP : ycn m top L steps0 x0 none)
  (hR : WRow W 0 (.slice A steps0.length c0) steps0) (hq : ∀ q, (Value.slice A steps0.length c0).ownBlock = some q → q ∉ F1 ∧ q ≠ gs) :
  Calls Tryz.prog 184 #[.pointer (some ⟨gs, 0, none⟩), .slice A steps0.length c0, .agg #[.string x0.1, .string x0.2]] W (yct W gs F1 (n + 1) most L (.tuple #[])) := by
 have c1 := hX.c1
 have f1 := hX.f1
 have hg := hX.lt
 have hstart : ykq W gs F1 top (n + 1) most L A c0 ((W.setCell ⟨gs, 1, none⟩ (.int .i64 (n + 1))).alloc (.cells #[.string x0.1, .string x0.2] 96)) steps0 x0 none := by
  have t1 : Touch [gs] W (W.setCell ⟨gs, 1, none⟩ (.int .i64 (n + 1))) := (Touch.refl _ _).set (.inl (by simp)) _
  have hz : (W.setCell ⟨gs, 1, none⟩ (.int .i64 (n + 1))).heap.size = W.heap.size := by simp [World.setCell]
  have al := (Touch.refl [] (W.setCell ⟨gs, 1, none⟩ (.int .i64 (n + 1)))).alloc (.cells #[.string x0.1, .string x0.2] 96)
  refine ⟨m, F1, hX.set1.touch al (by simp), (hS.touch t1 (fun z hz e => hgs (by simp at e; rw [← e]; exact hz))).new al, hgs, fun e => by have := hS.lt _ e; omega, fun q e => ⟨(hq q e).1, (hq q e).2, ?_⟩, hP, ?_, Box2.freshAt _ _ _ _ hz.symm, (t1.mono (by simp)).alloc _, fun q h => .inl h⟩
  ·have := (hR.lt q e).2; omega
  ·exact (t1.row hR (fun q e => by simpa using (hq q e).2)).alloc _
 have HST := Lib.hid hstart
 have hb1 : n + 1 ≤ 9223372036854775807 := by omega
 have hcb : steps0.length ≤ c0 ∧ c0 ≤ 9223372036854775807 ∨ (steps0.length = 0) := by
  rcases hR.2 with ⟨h0, h1⟩ | ⟨g, cap, cur, h0, _, _, h2, h3, _⟩
  ·exact .inr h1
  ·injection h0 with _ _ h0
   subst h0
   exact .inl ⟨h2, by unfold maxLen at h3; omega⟩
 clear hX hS hgs hP hR hq hstart
 go_enter Tryz.func184, Tryz.ntmps184
 go_wp2_with fail
 go_loopg [1, 6] (steps0.length + 1) (fun gh s1 s6 wx => ∃ steps x bh, s1 = .slice A steps.length c0 ∧ s6 = ybq bh ∧ Hid (ykq W gs F1 top (n + 1) most L A c0 wx steps x bh) ∧ gh = steps.length + 1)
 case atStart => exact ⟨steps0, x0, none, rfl, rfl, HST.out, rfl⟩
 case round =>
  obtain ⟨steps, x, bh, rfl, rfl, HA, hgh⟩ := hrel
  obtain ⟨m', F, hX, hS, hgs, hbx, hq, hP, hR, hB, hT, hF⟩ := HA.out
  rcases List.eq_nil_or_concat steps with rfl | ⟨st, s, rfl⟩
  ·have CG := Lib.hid (fun V (hV : Touch [] wr V) => yw4 V (hX.touch hV (by simp)) (hS.new hV) hgs hP)
   have HT := Lib.hid hT
   have HF := Lib.hid hF
   obtain ⟨b1, b2, b3, b4, b5⟩ := hB
   clear hX hS hgs hbx hq hP hR hT hF HA hgh HST
   obtain ⟨xk, xv⟩ := x
   go_wp2_with (go_at_call 203; ((with_reducible refine (CG.out _ (Touch.refl _ _)).mono ?_); rintro e w1 hw; have HW := Lib.hid hw; obtain ⟨rfl, -⟩ := hw))
   go_end0
   exact yct.of HT.out HF.out HW.out
  ·rw [List.concat_eq_append] at *
   obtain ⟨g, i⟩ := s
   obtain ⟨its, ps, e1, e2, e3, e4, e5, hfill⟩ := hP.step
   obtain ⟨q, rfl, k1, k2, k3, k4, k5, k6⟩ := yda hR
   have hq' := hq q rfl
   have hfil := hfill (upd m' g ⟨ya0 its i x, insB ps i bh⟩) (upd_same _ _ _) (fun z hz => ya3 _ _ hz)
   obtain ⟨its1, ps1, f2, f3, f4, f5⟩ := hfil.done
   have hits1 : its1.length = its.length + 1 := by
    rw [upd_same] at f2
    injection f2 with f2
    injection f2 with f2 _
    rw [← f2, yke _ _ _ e2]
   obtain ⟨m1, hm1⟩ : ∃ m1, upd m' g ⟨ya0 its i x, insB ps i bh⟩ = m1 := ⟨_, rfl⟩
   have CI : Hid (∀ V, Sto V m' F → Calls Tryz.prog 201 #[.pointer (some ⟨g, 0, none⟩), .int .i64 (i : Nat), .agg #[.string x.1, .string x.2], ybq bh] V (ybt V F m1 (.tuple #[]))) := by
    rw [← hm1]
    exact fun V hV => yw5 g i x.1 x.2 bh V hV e1 e2 (by omega) (by omega) e5
   rw [hm1] at f2 f4 f5
   obtain ⟨n1, hn1⟩ : ∃ n1, its1.length = n1 := ⟨_, rfl⟩
   have CC : Hid (∀ V F2, Sto V m1 F2 → ∃ C e, V.cell? ⟨g, 0, none⟩ = some (.slice C n1 e)) := fun V F2 hV => by
    obtain ⟨v, u, hN, -, -⟩ := hV.at f2
    have hN : NdX V g its1 ps1 v u := hN
    obtain ⟨C, e, rfl⟩ := yav hN.r0
    exact ⟨C, e, by rw [← hn1]; exact hN.c0⟩
   have HX := Lib.hid hX
   have HS := Lib.hid hS
   have HG := Lib.hid hgs
   have HBX := Lib.hid hbx
   have HQ := Lib.hid hq'
   have HR := Lib.hid hR
   have HB := Lib.hid hB
   have HT := Lib.hid hT
   have HF := Lib.hid hF
   obtain ⟨b1, b2, b3, b4, b5⟩ := hB
   have hcl : st.length + 1 ≤ 9223372036854775807 := Nat.le_trans k5 (Nat.le_trans k6 (by unfold maxLen; omega))
   have hlen : (st ++ [(g, i)]).length = st.length + 1 := by simp
   rw [hlen] at hgh
   obtain ⟨sl, hsl⟩ : ∃ sl, st.length = sl := ⟨_, rfl⟩
   have HSL := Lib.hid hsl
   rw [hlen, hsl]
   rw [hsl] at k1 k2 k5 hcl hgh
   clear hsl hlen
   by_cases h6 : n1 ≤ 6
   ·have hL := f4 (by omega)
    have HL := Lib.hid hL
    have h6' : (n1 : Int) ≤ 6 := by omega
    clear hX hS hgs hbx hq hP hR hT hF HA hfill hfil f2 f3 f4 f5 hL hm1 hn1 e1 e2 e3 e4 e5 hits1 hq' HST h6
    go_wp2_with (go_at_call 201; ((with_reducible refine (CI.out _ (HS.out.new ((Touch.refl _ _).alloc _))).mono ?_); rintro e w1 ⟨rfl, F2, hS2, hP2⟩; have HS2 := Lib.hid hS2; have HP2 := Lib.hid hP2; obtain ⟨z1, z2, z3, z4, z5⟩ := (Box2.fresh wr (.pointer (some ⟨g, 0, none⟩)) (.int .i64 (i : Nat)) 232).touch hP2.1 (fun e => Nat.lt_irrefl _ (HS.out.lt _ e)); obtain ⟨C, e9, j0⟩ := CC.out _ _ hS2; have HB1 := Lib.hid ((HB.out.touch ((Touch.refl [] _).alloc (.cells #[.pointer (some ⟨g, 0, none⟩), .int .i64 (i : Nat)] 232)) (by simp)).touch hP2.1 HBX.out); clear hS2 hP2))
    exact bodyPost_ret (results_none rfl _ _ _) rfl (yw6 HX.out HG.out HT.out HF.out HS2.out HP2.out HL.out)
   ·obtain ⟨hps1, y, hy, hnext⟩ := f5 (by omega)
    have CS : Hid (∀ V F2, Sto V m1 F2 → Calls Tryz.prog 202 #[.pointer (some ⟨g, 0, none⟩)] V fun e w => ∃ b, V.heap.size ≤ b ∧ ybt V F2 (upd (upd m1 g ⟨its1.take 3, ps1.take 4⟩) b ⟨its1.drop 4, ps1.drop 4⟩) (.tuple #[.agg #[.string y.1, .string y.2], .pointer (some ⟨b, 0, none⟩)]) e w) :=
     fun V F2 hV => yn0 g V hV f2 3 (by omega) (by omega) (by omega) (by rcases hps1 with z | z; exact .inl z; exact .inr (by omega)) (by rcases hps1 with z | z; rw [z]; simp; omega) y hy
    have HNX : Hid (∀ V F2 b, Sto V m1 F2 → V.heap.size ≤ b → ycn (upd (upd m1 g ⟨its1.take 3, ps1.take 4⟩) b ⟨its1.drop 4, ps1.drop 4⟩) top L st y (some b)) := fun V F2 b hV hb => by
     have hgb : g ≠ b := fun e => by have := hV.lt g (hV.mem f2); omega
     exact hnext _ b (fun nd e => by have := hV.lt b (hV.mem e); omega) (by rw [ya3 _ _ hgb, upd_same]) (upd_same _ _ _) (fun z h1 h2 => by rw [ya3 _ _ h2, ya3 _ _ h1])
    have h6' : (6 : Int) < (n1 : Int) := by omega
    have HBW : Hid (W.heap.size < wr.heap.size) := HB.out.lt
    clear hX hS hgs hbx hq hP hR hT hF HA hfill hfil f2 f3 f4 f5 hm1 hn1 e1 e2 e3 e4 e5 hits1 hq' HST h6 hnext hps1 hy
    go_wp2_with (first
     | (go_at_call 201; ((with_reducible refine (CI.out _ (HS.out.new ((Touch.refl _ _).alloc _))).mono ?_); rintro e w1 ⟨rfl, F2, hS2, hP2⟩; have HS2 := Lib.hid hS2; have HP2 := Lib.hid hP2; obtain ⟨z1, z2, z3, z4, z5⟩ := (Box2.fresh wr (.pointer (some ⟨g, 0, none⟩)) (.int .i64 (i : Nat)) 232).touch hP2.1 (fun e => Nat.lt_irrefl _ (HS.out.lt _ e)); obtain ⟨C, e9, j0⟩ := CC.out _ _ hS2; have HB1 := Lib.hid ((HB.out.touch ((Touch.refl [] _).alloc (.cells #[.pointer (some ⟨g, 0, none⟩), .int .i64 (i : Nat)] 232)) (by simp)).touch hP2.1 HBX.out); clear hS2 hP2))
     | (go_at_call 202; ((with_reducible refine (CS.out _ _ HS2.out).mono ?_); rintro e w2 ⟨b, hb, rfl, F3, hS3, hP3⟩; have HPH := Lib.hid (HNX.out _ _ b HS2.out hb); have HS3 := Lib.hid hS3; have HP3 := Lib.hid hP3; obtain ⟨x1, x2, x3, x4, x5⟩ := HB1.out.touch hP3.1 (yg1 HP2.out (Nat.lt_of_lt_of_le HBW.out ((Touch.refl [] wr).alloc _).size) HBX.out); clear hb hS3 hP3)))
    go_roundg (sl + 1)
    case measure => omega
    case rel => exact ⟨st, y, some b, by rw [HSL.out], rfl, yw7 HX.out hg HG.out HBX.out HQ.out HR.out HB.out HT.out HF.out HP2.out HP3.out HS3.out HPH.out rfl, by rw [HSL.out]⟩
theorem yov : ∀ (l : List Item) (i : Nat) (k u v : ByteArray), l[i]? = some (k, u) → (yaa l).set (i * 2 + 1) (.string v) = yaa (l.set i (k, v))
 | x :: l, 0, k, u, v, h => by
  injection h with h
  subst h
  rfl
 | x :: l, i + 1, k, u, v, h => by
  have z := yov l i k u v (by simpa using h)
  rw [show (i + 1) * 2 + 1 = i * 2 + 1 + 1 + 1 by omega, yb4, List.set_cons_succ, List.set_cons_succ, List.set_cons_succ, yb4, z]
theorem yow : ∀ (l : List Item) (i : Nat) (k v : ByteArray), i < l.length → ((yaa l).set (i * 2) (.string k)).set (i * 2 + 1) (.string v) = yaa (l.set i (k, v))
 | x :: l, 0, k, v, h => rfl
 | x :: l, i + 1, k, v, h => by
  have z := yow l i k v (by simpa using h)
  rw [show (i + 1) * 2 + 1 = i * 2 + 1 + 1 + 1 by omega, show (i + 1) * 2 = i * 2 + 1 + 1 by omega, yb4, List.set_cons_succ, List.set_cons_succ, List.set_cons_succ, List.set_cons_succ, List.set_cons_succ, yb4, z]
theorem NdX.row {W w : World} {g : Nat} {its its' : List Item} {ps : List Nat} {v u : Value} (h : NdX W g its ps v u) (hg : W.grownBy w v.ownBlock) (ho : w.ownsRow 0 96 2 v its.length (yaa its')) (hl : its'.length = its.length) :
  NdX w g its' ps v u ∧ Touch (g :: blocks v u) W w := by
 have hT : Touch (blocks v u) W w := (Touch.refl _ _).grown hg (fun k hk => .inl (ybb.2 (.inl hk)))
 have hgn : g ∉ blocks v u := fun e => (h.ltb g e).2 rfl
 have r1 : w.ownsRow 0 209 1 u ps.length (yaq ps) := h.r1.kept hg (by
  rcases u.ownBlock.eq_none_or_eq_some with e | ⟨q, e⟩
  ·exact .inl e
  ·exact .inr (fun e2 => h.ap q (e2.symm.trans e) e))
 exact ⟨⟨Nat.lt_of_lt_of_le h.lt hT.size, (hT.cell (p := ⟨g, 0, none⟩) h.lt hgn).trans h.c0, (hT.cell (p := ⟨g, 1, none⟩) h.lt hgn).trans h.c1, (hT.frozen (p := ⟨g, 0, none⟩) h.lt hgn).trans h.f0, (hT.frozen (p := ⟨g, 1, none⟩) h.lt hgn).trans h.f1, by rw [hl]; exact ho, r1, h.n0, h.n1, h.ap⟩,
  hT.mono (fun x hx => List.mem_cons_of_mem _ hx)⟩
theorem ykr (W : World) {m : NMap} {F : List Nat} (hS : Sto W m F) {g i : Nat} {its : List Item} {ps : List Nat} (hm : m g = some ⟨its, ps⟩) {x : Item} (hx : its[i]? = some x) :
  ∃ q, q < W.heap.size ∧ q ∈ F ∧ W.cell? ⟨q, i * 2, none⟩ = some (.string x.1) ∧ W.cell? ⟨q, i * 2 + 1, none⟩ = some (.string x.2) ∧ W.frozen? ⟨q, i * 2, none⟩ = false ∧ W.frozen? ⟨q, i * 2 + 1, none⟩ = false ∧
   Calls Tryz.prog 183 #[.agg #[.pointer (some ⟨g, 0, none⟩), .int .i64 (i : Nat)]] W (fun e w' => e = .returned (.pointer (some ⟨q, i * 2, none⟩)) ∧ Below W.heap.size W w') ∧
   (∃ v u, NdX W g its ps v u ∧ v.ownBlock = some q) ∧
   (∀ (W2 : World) (v : ByteArray), Touch [] W W2 → ∃ F', Sto (W2.setCell ⟨q, i * 2 + 1, none⟩ (.string v)) (upd m g ⟨its.set i (x.1, v), ps⟩) F' ∧ Stp W2 F (W2.setCell ⟨q, i * 2 + 1, none⟩ (.string v)) F') ∧
   (∀ (W2 : World) (k v : ByteArray), Touch [] W W2 → ∃ F', Sto ((W2.setCell ⟨q, i * 2, none⟩ (.string k)).setCell ⟨q, i * 2 + 1, none⟩ (.string v)) (upd m g ⟨its.set i (k, v), ps⟩) F' ∧ Stp W2 F ((W2.setCell ⟨q, i * 2, none⟩ (.string k)).setCell ⟨q, i * 2 + 1, none⟩ (.string v)) F') := by
 obtain ⟨hi, hxe⟩ := List.getElem?_eq_some_iff.1 hx
 obtain ⟨v, u, hN, hF, -⟩ := hS.at hm
 have hN : NdX W g its ps v u := hN
 obtain ⟨q, c, rfl, -, -⟩ := ybs hN.r0 (by omega)
 refine ⟨q, (hN.r0.lt q rfl).2, hF q (ybb.2 (.inl rfl)), (hN.r0.cellAt (i * 2) (by omega)).trans (by rw [ycc its i hi, hxe]), (hN.r0.cellAt (i * 2 + 1) (by omega)).trans (by rw [yci its i hi, hxe]), hN.r0.frozenAt _, hN.r0.frozenAt _, ynu g i q c W hN hi, ⟨_, _, hN, rfl⟩, fun W2 v hT => ?_, fun W2 k v hT => ?_⟩
 ·have hS2 := hS.new hT
  obtain ⟨v2, u2, hN2, -, hfin⟩ := hS2.at hm
  have hN2 : NdX W2 g its ps v2 u2 := hN2
  obtain ⟨e1, e2⟩ := (hN.new hT).eq hN2
  subst e1 e2
  obtain ⟨a, b⟩ := hN2.r0.stored (i * 2 + 1) (.string v)
  rw [yov its i x.1 x.2 v hx] at a
  obtain ⟨c1, c2⟩ := hN2.row b a (by simp)
  exact ⟨_, hfin _ _ _ _ _ c1 c2 (fun q hq => .inl hq)⟩
 ·have hS2 := hS.new hT
  obtain ⟨v2, u2, hN2, -, hfin⟩ := hS2.at hm
  have hN2 : NdX W2 g its ps v2 u2 := hN2
  obtain ⟨e1, e2⟩ := (hN.new hT).eq hN2
  subst e1 e2
  obtain ⟨a, b⟩ := hN2.r0.stored (i * 2) (.string k)
  obtain ⟨a2, b2⟩ := a.stored (i * 2 + 1) (.string v)
  rw [yow its i k v hi] at a2
  obtain ⟨c1, c2⟩ := hN2.row (yck b b2) a2 (by simp)
  exact ⟨_, hfin _ _ _ _ _ c1 c2 (fun q hq => .inl hq)⟩
def yio (W : World) (gs : Nat) (most : Int) (l : List Item) (F : List Nat) (k v : ByteArray) (e : Ending) (w' : World) : Prop :=
 e = .returned (.int .i64 (putE most l k v)) ∧ ∃ F', SH w' gs most (putS most l k v) F' ∧ Touch F W w' ∧ ∀ q ∈ F', q ∈ F ∨ W.heap.size ≤ q
theorem yks {W w : World} {gs : Nat} {most r : Int} {l : List Item} {F : List Nat} {k v : ByteArray} (h : SH W gs most l F) (hr : putE most l k v = r) (hr0 : r ≠ 0) (hT : Touch [] W w) : yio W gs most l F k v (.returned (.int .i64 r)) w := by
 refine ⟨by rw [hr], F, ?_, hT.mono (by simp), fun q hq => .inl hq⟩
 rw [putS, if_neg (by rw [hr]; exact hr0)]
 exact h.touch hT (by simp)
theorem yw9 {W w1 w : World} {gs : Nat} {most : Int} {l L : List Item} {F1 : List Nat} {k v : ByteArray} (hE : putE most l k v = 0) (hL : putN l k v = L) (hr : yah l) (hlm : (L.length : Int) ≤ most) (hm2 : most ≤ 200) (hb : Touch [] W w1) {e : Ending}
  (h : yct w1 gs F1 (L.length : Nat) most L (.tuple #[]) e w) : yio W gs most l (gs :: F1) k v (.returned (.int .i64 0)) w := by
 obtain ⟨-, top, m, F', a, b, c, d, e1, e2⟩ := h
 subst hL
 refine ⟨by rw [hE], gs :: F', ⟨top, m, F', by rw [putS, if_pos hE]; exact a, b, c, rfl, by rw [putS, if_pos hE]; exact d, by rw [putS, if_pos hE]; exact hr.put k v, by rw [putS, if_pos hE]; exact hlm, hm2⟩, (hb.mono (by simp)).trans e1 (fun x hx => .inl hx), fun q hq => ?_⟩
 rcases List.mem_cons.1 hq with e | e
 ·exact .inl (by rw [e]; simp)
 ·rcases e2 q e with z | z
  ·exact .inl (by simp [z])
  ·exact .inr (Nat.le_trans hb.size z)
theorem yxa {W w1 : World} {gs c : Nat} {top : Option Nat} {n most : Int} {m : NMap} {F1 : List Nat} {L : List Item} {A : Option Addr} {steps : List (Nat × Nat)} {k v : ByteArray} (hX : ShX W gs top n most) (hS : Sto W m F1) (hgs : gs ∉ F1) (hn : 0 ≤ n) (hn2 : n ≤ 1000) (hB : Below W.heap.size W w1)
  (hO : WRow w1 W.heap.size (.slice A steps.length c) steps) (hP : ycn m top L steps (k, v) none) : ∀ V, Touch [] w1 V → Calls Tryz.prog 184 #[.pointer (some ⟨gs, 0, none⟩), .slice A steps.length c, .agg #[.string k, .string v]] V (yct V gs F1 (n + 1) most L (.tuple #[])) := by
 intro V hV
 have hT : Touch [] W V := (Touch.ofBelow (F := []) hB).trans hV (by simp)
 exact yw8 (x0 := (k, v)) V (hX.touch hT (by simp)) (hS.new hT) hgs hn hn2 hP (hV.row (ybp hO (Nat.zero_le _)) (by simp)) (fun q e => by
  have z := (hO.lt q e).1
  have g1 := hX.lt
  exact ⟨fun e2 => by have := hS.lt q e2; omega, by omega⟩)
theorem yxb {W w1 w2 : World} {gs qi : Nat} {off : Nat} {x : Value} {most : Int} {l : List Item} {F1 F' : List Nat} {m' : NMap} {top : Option Nat} {k v : ByteArray} (hE : putE most l k v = 0) (hX : ShX W gs top (l.length : Nat) most) (hgs : gs ∉ F1) (hr : yah l) (hl : (putN l k v).length = l.length) (hlm : ((l.length : Nat) : Int) ≤ most) (hm2 : most ≤ 200)
  (hT : ybu m' top (putN l k v)) (h1 : Touch [] W w1) (h2 : Touch [] w1 w2) (hS : Sto (w2.setCell ⟨qi, off, none⟩ x) m' F') (hP : Stp w2 F1 (w2.setCell ⟨qi, off, none⟩ x) F') : yio W gs most l (gs :: F1) k v (.returned (.int .i64 0)) (w2.setCell ⟨qi, off, none⟩ x) := by
 have t : Touch [] W w2 := h1.trans h2 (by simp)
 have hg := hX.lt
 have gn : gs ∉ F' := fun e => by
  rcases hP.2 gs e with z | z
  ·exact hgs z
  ·have := t.size; omega
 have e0 : putS most l k v = putN l k v := by rw [putS, if_pos hE]
 refine ⟨by rw [hE], gs :: F', ⟨top, m', F', ?_, hS, gn, rfl, by rw [e0]; exact hT, by rw [e0]; exact hr.put k v, by rw [e0, hl]; exact hlm, hm2⟩, ?_, fun q hq' => ?_⟩
 ·rw [e0, hl]
  exact (hX.touch t (by simp)).touch hP.1 hgs
 ·exact (t.mono (by simp)).trans (hP.1.mono (fun z hz => List.mem_cons_of_mem gs hz)) (fun z hz => .inl hz)
 ·rcases List.mem_cons.1 hq' with e | e
  ·exact .inl (by rw [e]; simp)
  ·rcases hP.2 q e with z | z
   ·exact .inl (by simp [z])
   ·exact .inr (Nat.le_trans t.size z)
theorem yxc {W : World} {gs : Nat} {most : Int} {l : List Item} {F : List Nat} (k v : ByteArray) (h : SH W gs most l F) (hk : k.size ≤ maxLen) (hv : v.size ≤ maxLen) :
  Calls Tryz.prog 138 #[.pointer (some ⟨gs, 0, none⟩), .string k, .string v] W (yio W gs most l F k v) := by
 have hH := h
 obtain ⟨top, m, F1, hX, hS, hgs, rfl, hT, hr, hlm, hm2⟩ := h
 have CR := Lib.hid (ygz gs W hX)
 have CK := Lib.hid (yln k W hk)
 have CV := Lib.hid (ylo v W hv)
 have HH := Lib.hid hH
 clear hH
 by_cases h1 : yal k = 0
 ·by_cases h2 : yas v = 0
  ·rw [h1] at CK
   rw [h2] at CV
   cases hh : hasN l k
   ·by_cases hfull : most ≤ (l.length : Int)
    ·
     have hE : putE most l k v = 5 := by rw [putE, if_neg (by simp [h1]), if_neg (by simp [h2]), if_pos ⟨hh, hfull⟩]
     have HE := Lib.hid hE
     have CW := Lib.hid (yin hX hS hT hr (by omega) hh)
     have HX := Lib.hid hX
     have hc : ((l.length : Nat) : Int) = most := by omega
     clear hX hS hT hr h1 h2 hfull hE hh
     obtain ⟨n, hn⟩ : ∃ n : Int, ((l.length : Nat) : Int) = n := ⟨_, rfl⟩
     rw [hn] at HX hc hlm
     subst hc
     clear hn
     go_enter Tryz.func138, Tryz.ntmps138
     go_wp2_with (first
      | (go_at_call 167; ((with_reducible refine (CR.out).mono ?_); rintro e w1 ⟨rfl, rfl⟩))
      | (go_at_call 133; ((with_reducible refine (CK.out).mono ?_); rintro e w1 ⟨rfl, rfl⟩))
      | (go_at_call 136; ((with_reducible refine (CV.out).mono ?_); rintro e w1 ⟨rfl, rfl⟩))
      | (go_at_call 182; ((with_reducible refine (CW.out).mono ?_); rintro e w1 ⟨steps, A, c, rfl, hO, hB, hM⟩; have HT1 : Hid (Touch [] W w1) := Touch.ofBelow hB; obtain ⟨x1, x2, x3, x4, x5, x6, x7⟩ := HX.out.touch HT1.out (by simp); clear hO hB hM)))
     go_quiet (fail)
     go_wp2
     go_ret
     exact yks HH.out HE.out (by omega) (HT1.out.drewN _)
    ·
     have hE : putE most l k v = 0 := by rw [putE, if_neg (by simp [h1]), if_neg (by simp [h2]), if_neg (fun z => hfull z.2)]
     have HE := Lib.hid hE
     have CW := Lib.hid (yin hX hS hT hr (by omega) hh)
     have HX := Lib.hid hX
     have HS := Lib.hid hS
     have HG := Lib.hid hgs
     have HR := Lib.hid hr
     have HL : Hid (((putN l k v).length : Int) = (l.length : Nat) + 1 ∧ ((putN l k v).length : Int) ≤ most ∧ most ≤ 200) := by
      have z := yga l k v
      rw [hh] at z
      have z2 : (putN l k v).length = l.length + 1 := z
      exact ⟨by omega, by omega, hm2⟩
     have hb0 : 0 ≤ ((l.length : Nat) : Int) := by omega
     have hb1 : ((l.length : Nat) : Int) ≤ 1000 := by omega
     have hne : (((l.length : Nat) : Int) == most) = false := by rw [beq_eq_false_iff_ne]; omega
     clear hX hS hT hr h1 h2 hfull hE hh hgs hlm hm2
     obtain ⟨n, hn⟩ : ∃ n : Int, ((l.length : Nat) : Int) = n := ⟨_, rfl⟩
     rw [hn] at HX HL hb0 hb1 hne
     clear hn
     go_enter Tryz.func138, Tryz.ntmps138
     go_upto_region 13 with (first
      | (go_at_call 167; ((with_reducible refine (CR.out).mono ?_); rintro e w1 ⟨rfl, rfl⟩))
      | (go_at_call 133; ((with_reducible refine (CK.out).mono ?_); rintro e w1 ⟨rfl, rfl⟩))
      | (go_at_call 136; ((with_reducible refine (CV.out).mono ?_); rintro e w1 ⟨rfl, rfl⟩))
      | (go_at_call 182; ((with_reducible refine (CW.out).mono ?_); rintro e w1 ⟨steps, A, c, rfl, hO, hB, hM⟩; have HT1 : Hid (Touch [] W w1) := Touch.ofBelow hB; obtain ⟨x1, x2, x3, x4, x5, x6, x7⟩ := HX.out.touch HT1.out (by simp); have CA : Hid (∀ V, Touch [] w1 V → Calls Tryz.prog 184 #[.pointer (some ⟨gs, 0, none⟩), .slice A steps.length c, .agg #[.string k, .string v]] V (yct V gs F1 (n + 1) most (putN l k v) (.tuple #[]))) := yxa HX.out HS.out HG.out hb0 hb1 hB hO (hM.put v).2; clear hO hB hM)))
     go_quiet (fail)
     go_wp2_with (go_at_call 184; ((with_reducible refine (CA.out _ ((Touch.refl _ _).drewN _)).mono ?_); rintro e w2 hw; have HW := Lib.hid hw; obtain ⟨rfl, -⟩ := hw))
     go_ret
     exact yw9 HE.out rfl HR.out HL.out.2.1 HL.out.2.2 (HT1.out.drewN _) (by rw [HL.out.1]; exact HW.out)
   ·
    have hE : putE most l k v = 0 := by rw [putE, if_neg (by simp [h1]), if_neg (by simp [h2]), if_neg (fun z => by rw [hh] at z; cases z.1)]
    have HE := Lib.hid hE
    have CW := Lib.hid (ykp hX hS hT hr (by omega) hh)
    have HX := Lib.hid hX
    have HS := Lib.hid hS
    have HG := Lib.hid hgs
    have HR := Lib.hid hr
    have HL : Hid ((putN l k v).length = l.length ∧ ((l.length : Nat) : Int) ≤ most ∧ most ≤ 200) := by
     have z := yga l k v
     rw [hh] at z
     exact ⟨z, hlm, hm2⟩
    clear hX hS hT hr h1 h2 hE hh hgs hlm hm2
    go_enter Tryz.func138, Tryz.ntmps138
    go_wp2_with (first
     | (go_at_call 167; ((with_reducible refine (CR.out).mono ?_); rintro e w1 ⟨rfl, rfl⟩))
     | (go_at_call 133; ((with_reducible refine (CK.out).mono ?_); rintro e w1 ⟨rfl, rfl⟩))
     | (go_at_call 136; ((with_reducible refine (CV.out).mono ?_); rintro e w1 ⟨rfl, rfl⟩))
     | (go_at_call 182; ((with_reducible refine (CW.out).mono ?_); rintro e w1 ⟨st, g, i, u, q, c, rfl, hO, hB, hF⟩; obtain ⟨its, ps, e1, e2, e3, hset⟩ := hF.set (v := v); have HSET := Lib.hid (hset _ (upd_same m g ⟨its.set i (k, v), ps⟩) (fun z hz => ya3 m _ hz)); obtain ⟨q', he, k1, k2, k3, k4, k5, k6⟩ := yda hO; obtain rfl : q = q' := congrArg Addr.block (Option.some.inj he); obtain ⟨qi, j1, j2, j3, j4, j5, j6, j7, -, j8, -⟩ := ykr w1 (HS.out.below hB) e1 e2; have hcl : st.length + 1 ≤ 9223372036854775807 := Nat.le_trans k5 (Nat.le_trans k6 (by unfold maxLen; omega)); obtain ⟨sl, hsl⟩ : ∃ sl, st.length = sl := ⟨_, rfl⟩; rw [hsl] at k1 k2 hcl ⊢; have HB := Lib.hid hB; have CI := Lib.hid j7; have HJ := Lib.hid j8; clear hO hB hF e1 e2 e3 he j2 j3 j5 j7 j8 k3 k4 k5 k6 hsl hset))
     | (go_at_call 183; ((with_reducible refine (CI.out).mono ?_); rintro e w2 ⟨rfl, hb2⟩; have j4' := (hb2.cell (p := ⟨qi, i * 2 + 1, none⟩) j1).trans j4; have j6' := (hb2.frozen (p := ⟨qi, i * 2 + 1, none⟩) j1).trans j6; have HB2 := Lib.hid hb2; clear hb2)))
    go_ret
    obtain ⟨F', a, b⟩ := HJ.out w2 v (Touch.ofBelow HB2.out)
    exact yxb HE.out HX.out HG.out HR.out HL.out.1 HL.out.2.1 HL.out.2.2 HSET.out (Touch.ofBelow HB.out) (Touch.ofBelow HB2.out) a b
  ·have hE : putE most l k v = yas v := by rw [putE, if_neg (by simp [h1]), if_pos h2]
   have HE := Lib.hid hE
   have H2 := Lib.hid h2
   rw [h1] at CK
   have hb : (yas v != 0) = true := by rw [bne_iff_ne]; exact h2
   clear hX hS hgs hT hr hlm hm2 h1 h2 hE hk hv
   generalize yas v = r at *
   go_enter Tryz.func138, Tryz.ntmps138
   go_wp2_with (first
    | (go_at_call 167; ((with_reducible refine (CR.out).mono ?_); rintro e w1 ⟨rfl, rfl⟩))
    | (go_at_call 133; ((with_reducible refine (CK.out).mono ?_); rintro e w1 ⟨rfl, rfl⟩))
    | (go_at_call 136; ((with_reducible refine (CV.out).mono ?_); rintro e w1 ⟨rfl, rfl⟩)))
   go_ret
   exact yks HH.out HE.out H2.out (Touch.refl _ _)
 ·have hE : putE most l k v = yal k := by rw [putE, if_pos h1]
  have HE := Lib.hid hE
  have H1 := Lib.hid h1
  have hb : (yal k != 0) = true := by rw [bne_iff_ne]; exact h1
  clear hX hS hgs hT hr hlm hm2 h1 hE hk hv
  generalize yal k = r at *
  go_enter Tryz.func138, Tryz.ntmps138
  go_wp2_with (first
   | (go_at_call 167; ((with_reducible refine (CR.out).mono ?_); rintro e w1 ⟨rfl, rfl⟩))
   | (go_at_call 133; ((with_reducible refine (CK.out).mono ?_); rintro e w1 ⟨rfl, rfl⟩)))
  go_ret
  exact yks HH.out HE.out H1.out (Touch.refl _ _)
end Go.Proofs.YtnjodhglbapnlaaGreat
