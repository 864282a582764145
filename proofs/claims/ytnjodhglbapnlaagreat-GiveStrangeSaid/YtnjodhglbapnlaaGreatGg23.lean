import Derived.Test.YtnjodhglbapnlaaGreatGg11
import Derived.Test.YtnjodhglbapnlaaGreatGg12
import Derived.Test.YtnjodhglbapnlaaGreatGg03
import Derived.Test.YtnjodhglbapnlaaGreatGg22
import Derived.Test.YtnjodhglbapnlaaGreatGg04
import Derived.Test.YtnjodhglbapnlaaGreatGg01
set_option maxRecDepth 100000
set_option maxHeartbeats 16000000
namespace Go.Proofs.YtnjodhglbapnlaaGreat
open Go.RowKit
theorem Gi.GM.head2 {w : World} {g : Nat} {H : Gi.HC} {s : GS} {x : Gi.GRow} {R : List Gi.GRow} (h : Gi.GM w g H s x R) (i : Nat) (u : Value) (H' : Gi.HC) (he : (Gi.hC H s (x :: R)).toArray.setIfInBounds i u = (Gi.hC H' s (x :: R)).toArray) : Gi.GM (w.setCell ⟨g, i, none⟩ u) g H' s x R := by
 have t : Touch [g] w (w.setCell ⟨g, i, none⟩ u) := (Touch.refl _ _).set (.inl (by simp)) _
 exact ⟨h.hl, h.l, h.few, by rw [Gi.gm_set h.hg, he], fun y hy => t.row (h.rows y hy) fun q hq z => h.gn y hy (by rw [hq, List.mem_singleton.1 z]), h.own, h.gn, h.b, h.pts⟩
theorem Gi.VG.owned {w : World} {g : Nat} {H : Gi.HC} {s : GS} {F : List Nat} (h : Gi.VG w g H s F) (u : Value) : Gi.VG (w.setCell ⟨g, 3, none⟩ u) g ⟨H.a, H.b, H.c, u, H.e⟩ s F := by
 obtain ⟨x, R, k, rfl⟩ := h
 exact ⟨x, R, k.head2 3 u ⟨H.a, H.b, H.c, u, H.e⟩ (by simp [Gi.hC]), rfl⟩
theorem Gi.VG.cells {w : World} {g : Nat} {H : Gi.HC} {s : GS} {F : List Nat} (h : Gi.VG w g H s F) : w.cell? ⟨g, 0, none⟩ = some H.a ∧ w.cell? ⟨g, 1, none⟩ = some H.b ∧ w.cell? ⟨g, 2, none⟩ = some H.c ∧ w.cell? ⟨g, 3, none⟩ = some H.d ∧ w.cell? ⟨g, 4, none⟩ = some H.e ∧ (∀ i, w.frozen? ⟨g, i, none⟩ = false) ∧ g < w.heap.size ∧ g ∈ F := by
 obtain ⟨x, R, k, rfl⟩ := h
 exact ⟨Gi.gm_cell k.hg rfl, Gi.gm_cell k.hg rfl, Gi.gm_cell k.hg rfl, Gi.gm_cell k.hg rfl, Gi.gm_cell k.hg rfl, k.free, k.lt, Gi.mem_gF.2 (.inl rfl)⟩
abbrev hcOf (s : HO) (S : Value) (sp : Nat) : Gi.HC := ⟨.int .i64 s.nd, .int .i64 s.most, .int .i64 (s.kept : Nat), S, .pointer (some ⟨sp, 0, none⟩)⟩
structure HM (w : World) (g : Nat) (s : HO) (l : List AO) (S : Value) (sp : Nat) (Fs Fg : List Nat) : Prop where
 gate : Gi.VG w g (hcOf s S sp) s.g Fg
 row : ya9 w S l.length s.nd l
 shelf : SH w sp s.most s.its Fs
 ol : OwnL l s.own
 few : l.length ≤ 2 * s.k
 wide : Wide s.nd
 right : ∀ x ∈ s.its, yal x.1 = 0 ∧ yas x.2 = 0
 kept : s.kept ≤ 200
 d1 : ∀ q ∈ Fs, q ∉ Fg
 d2 : ∀ q, S.ownBlock = some q → q ∉ Fs ∧ q ∉ Fg
abbrev hF (S : Value) (Fs Fg : List Nat) : List Nat := S.ownBlock.toList ++ (Fs ++ Fg)
def VD (w : World) (g : Nat) (s : HO) (F : List Nat) : Prop := ∃ l S sp Fs Fg, HM w g s l S sp Fs Fg ∧ F = hF S Fs Fg
theorem yau {S : Value} {Fs Fg : List Nat} {q : Nat} : q ∈ hF S Fs Fg ↔ S.ownBlock = some q ∨ q ∈ Fs ∨ q ∈ Fg := by
 simp [hF]
section
variable {w w1 : World} {g sp : Nat} {s : HO} {l : List AO} {S : Value} {Fs Fg : List Nat}
theorem HM.all_lt (h : HM w g s l S sp Fs Fg) : ∀ q ∈ hF S Fs Fg, q < w.heap.size := by
 intro q hq
 rcases yau.1 hq with z | z | z
 ·exact h.row.lt q z
 ·exact h.shelf.ltF q z
 ·exact (Gi.vg_has h.gate).2 q z
theorem HM.touch {G : List Nat} (h : HM w g s l S sp Fs Fg) (t : Touch G w w1) (hn : ∀ q ∈ hF S Fs Fg, q ∉ G) : HM w1 g s l S sp Fs Fg :=
 {h with
  gate := Gi.vg_touch h.gate t fun q hq => hn q (yau.2 (.inr (.inr hq)))
  row := h.row.touch t fun q hq => hn q (yau.2 (.inl hq))
  shelf := h.shelf.touch t fun q hq => hn q (yau.2 (.inr (.inl hq))) }
theorem HM.below (h : HM w g s l S sp Fs Fg) (t : Below w.heap.size w w1) : HM w1 g s l S sp Fs Fg := h.touch (Touch.ofBelow (F := []) t) (by simp)
theorem HM.c4 (h : HM w g s l S sp Fs Fg) : w.cell? ⟨g, 4, none⟩ = some (.pointer (some ⟨sp, 0, none⟩)) := h.gate.cells.2.2.2.2.1
theorem HM.c3 (h : HM w g s l S sp Fs Fg) : w.cell? ⟨g, 3, none⟩ = some S := h.gate.cells.2.2.2.1
theorem HM.lt (h : HM w g s l S sp Fs Fg) : g < w.heap.size := h.gate.cells.2.2.2.2.2.2.1
theorem HM.its200 (h : HM w g s l S sp Fs Fg) : (s.its.length : Int) ≤ s.most ∧ s.most ≤ 200 := by
 obtain ⟨_, _, _, _, _, _, _, _, _, a, b⟩ := h.shelf
 exact ⟨a, b⟩
theorem HM.same (h : HM w g s l S sp Fs Fg) (b : Below w.heap.size w w1) (v : Value) : ybz VD w g (hF S Fs Fg) v s (.returned v) w1 :=
 ⟨_, rfl, ⟨l, S, sp, Fs, Fg, h.below b, rfl⟩, Touch.ofBelow b, fun _ hq => .inl hq⟩
theorem HM.setGate (h : HM w g s l S sp Fs Fg) {gs : GS} {Fg' : List Nat} (hv : Gi.VG w1 g (hcOf s S sp) gs Fg') (t : Touch Fg w w1) (hn : ∀ q ∈ Fg', q ∈ Fg ∨ w.heap.size ≤ q) : HM w1 g ⟨s.nd, s.most, s.kept, s.own, s.its, gs, s.k⟩ l S sp Fs Fg' :=
 {h with
  gate := hv
  row := h.row.touch t fun q hq => (h.d2 q hq).2
  shelf := h.shelf.touch t h.d1
  d1 := fun q hq z => by
   rcases hn q z with y | y
   ·exact h.d1 q hq y
   ·have := h.shelf.ltF q hq; omega
  d2 := fun q hq => ⟨(h.d2 q hq).1, fun z => by
   rcases hn q z with y | y
   ·exact (h.d2 q hq).2 y
   ·have := h.row.lt q hq; omega⟩ }
theorem HM.setShelf (h : HM w g s l S sp Fs Fg) {its : List Item} {Fs' : List Nat} (hv : SH w1 sp s.most its Fs') (t : Touch Fs w w1) (hn : ∀ q ∈ Fs', q ∈ Fs ∨ w.heap.size ≤ q) (hr : ∀ x ∈ its, yal x.1 = 0 ∧ yas x.2 = 0) : HM w1 g ⟨s.nd, s.most, s.kept, s.own, its, s.g, s.k⟩ l S sp Fs' Fg :=
 {h with
  gate := Gi.vg_touch h.gate t fun q hq z => h.d1 q z hq
  row := h.row.touch t fun q hq => (h.d2 q hq).1
  shelf := hv
  right := hr
  d1 := fun q hq z => by
   rcases hn q hq with y | y
   ·exact h.d1 q y z
   ·have := (Gi.vg_has h.gate).2 q z; omega
  d2 := fun q hq => ⟨fun z => by
   rcases hn q z with y | y
   ·exact (h.d2 q hq).1 y
   ·have := h.row.lt q hq; omega, (h.d2 q hq).2⟩ }
theorem HM.setOwned (h : HM w g s l S sp Fs Fg) {l2 : List AO} {S2 : Value} {own : Nat → Option Int} (ho : OwnL l2 own) (hf : l2.length ≤ l.length + 2) (t : Touch S.ownBlock.toList w w1) (hr : ya9 w1 S2 l2.length s.nd l2) (hs : ∀ q, S2.ownBlock = some q → w.heap.size ≤ q) : HM (w1.setCell ⟨g, 3, none⟩ S2) g ⟨s.nd, s.most, s.kept, own, s.its, s.g, s.k + 1⟩ l2 S2 sp Fs Fg := by
 have hg := h.gate.cells.2.2.2.2.2.2.2
 have h1 : Gi.VG w1 g (hcOf s S sp) s.g Fg := Gi.vg_touch h.gate t fun q hq z => (h.d2 q (Option.mem_toList.1 z)).2 hq
 have hlt := h.lt
 have t2 : Touch [g] w1 (w1.setCell ⟨g, 3, none⟩ S2) := (Touch.refl _ _).set (.inl (by simp)) _
 refine ⟨h1.owned S2, hr.touch t2 (fun q hq z => ?_), (h.shelf.touch t (fun q hq z => (h.d2 q (Option.mem_toList.1 z)).1 hq)).touch t2 (fun q hq z => h.d1 q hq (by rw [List.mem_singleton.1 z]; exact hg)), ho, by have := h.few; simp only; omega, h.wide, h.right, h.kept, h.d1, fun q hq => ⟨fun z => ?_, fun z => ?_⟩⟩
 ·have := hs q hq
  have := List.mem_singleton.1 z
  omega
 ·have := hs q hq
  have := h.shelf.ltF q z
  omega
 ·have := hs q hq
  have := (Gi.vg_has h.gate).2 q z
  omega
end
theorem yyj {w : World} {g : Nat} {s : HO} {F : List Nat} (h : VD w g s F) : g ∈ F ∧ ∀ q ∈ F, q < w.heap.size := by
 obtain ⟨l, S, sp, Fs, Fg, h, rfl⟩ := h
 exact ⟨yau.2 (.inr (.inr h.gate.cells.2.2.2.2.2.2.2)), h.all_lt⟩
theorem yyk {w : World} {g : Nat} {s : HO} {F : List Nat} (h : VD w g s F) : yah s.its ∧ ∀ x ∈ s.its, yal x.1 = 0 ∧ yas x.2 = 0 := by
 obtain ⟨l, S, sp, Fs, Fg, h, rfl⟩ := h
 exact ⟨yb2.rising h.shelf, h.right⟩
theorem yyl {w w' : World} {g : Nat} {s : HO} {F G : List Nat} (h : VD w g s F) (t : Touch G w w') (hn : ∀ q ∈ F, q ∉ G) : VD w' g s F := by
 obtain ⟨l, S, sp, Fs, Fg, h, rfl⟩ := h
 exact ⟨l, S, sp, Fs, Fg, h.touch t hn, rfl⟩
theorem ydb (g sp : Nat) (W : World) (h : W.cell? ⟨g, 4, none⟩ = some (.pointer (some ⟨sp, 0, none⟩))) : Calls Tryz.prog 53 #[.pointer (some ⟨g, 0, none⟩)] W fun e w' => e = .returned (.bool false) ∧ W = w' := by
 go_enter Tryz.func53, Tryz.ntmps53
 go_wp2
 go_ret
 exact ⟨rfl, rfl⟩
theorem yym {w : World} {g : Nat} {s : HO} {F : List Nat} (h : VD w g s F) : Calls Tryz.prog 44 #[.pointer (some ⟨g, 0, none⟩)] w fun e w' => e = .returned (.int .i64 (s.its.length : Nat)) ∧ Below w.heap.size w w' := by
 obtain ⟨l, S, sp, Fs, Fg, h, rfl⟩ := h
 have C0 := Lib.hid (ydb g sp w h.c4)
 have C1 := Lib.hid (yb2.len h.shelf)
 have c4 := h.c4
 clear h
 go_enter Tryz.func44, Tryz.ntmps44
 go_wp2_with (first
  | (go_at_call 53; (with_reducible refine (C0.out).mono ?_); rintro e w1 ⟨rfl, rfl⟩)
  | (go_at_call 125; (with_reducible refine (C1.out).mono ?_); rintro e w2 ⟨rfl, hb2⟩; have HB2 := Lib.hid hb2; clear hb2))
 go_ret
 exact ⟨rfl, HB2.out⟩
theorem yyn {w : World} {g : Nat} {s : HO} {F : List Nat} (h : VD w g s F) : Calls Tryz.prog 28 #[.pointer (some ⟨g, 0, none⟩)] w fun e w' => ∃ S, e = .returned S ∧ w'.ownsRow w.heap.size 96 2 S s.its.length (yaa s.its) ∧ Below w.heap.size w w' := by
 obtain ⟨l, S, sp, Fs, Fg, h, rfl⟩ := h
 have C0 := Lib.hid (ydb g sp w h.c4)
 have C1 := Lib.hid (yb2.items h.shelf)
 have c4 := h.c4
 clear h
 go_enter Tryz.func28, Tryz.ntmps28
 go_wp2_with (first
  | (go_at_call 53; (with_reducible refine (C0.out).mono ?_); rintro e w1 ⟨rfl, rfl⟩)
  | (go_at_call 107; (with_reducible refine (C1.out).mono ?_); rintro e w2 ⟨A, c, rfl, ha, hb2⟩; have HB2 := Lib.hid hb2; have HA := Lib.hid ha; clear hb2 ha))
 go_ret
 exact ⟨_, rfl, HA.out, HB2.out⟩
theorem yyo {l : List AO} {own : Nat → Option Int} (h : OwnL l own) {x : Nat} (hx : x < 18446744073709551616) : l.any (ygq x) = (own x).isSome := by
 cases ho : own x with
 | none =>
  refine List.any_eq_false.2 fun o ho' => ?_
  have := (yeu h.ow hx).1 ho o ho'
  simpa [ygq] using this
 | some e =>
  obtain ⟨o, h1, h2, _⟩ := (h.ow x hx e).1 ho
  exact List.any_eq_true.2 ⟨o, h1, h2⟩
theorem ypf {w : World} {g : Nat} {s : HO} {F : List Nat} (x : Nat) (hx : x < 18446744073709551616) (hk : s.k ≤ 1000) (h : VD w g s F) : Calls Tryz.prog 30 #[.pointer (some ⟨g, 0, none⟩), .int .u64 (x : Nat)] w fun e w' => e = .returned (.bool (s.own x).isSome) ∧ Below w.heap.size w w' := by
 obtain ⟨l, S, sp, Fs, Fg, h, rfl⟩ := h
 have B0 : Below w.heap.size w (w.alloc (.cells #[.int .u64 (x : Nat)] 23)) := (Below.refl _ _).alloc (Nat.le_refl _) _
 have h1 := h.below B0
 have C0 := Lib.hid (ydb g sp _ h1.c4)
 obtain ⟨A, c, rfl, _, _⟩ := h1.row.shape
 have cb : (w.alloc (.cells #[.int .u64 (x : Nat)] 23)).cell? ⟨w.heap.size, 0, none⟩ = some (.int .u64 (x : Nat)) := yaw (heap_alloc_new w _) rfl
 have C1 := Lib.hid (ys5 l s.nd (ygq x) w.heap.size A c l.length _ (by have := h1.few; omega) h1.row (fun w' o hb ho => ys2 o s.nd x w.heap.size w' (h1.ol.arcs.lt o ho) hx ((hb.cell (p := ⟨w.heap.size, 0, none⟩) (by simp)).trans cb)))
 rw [yyo h1.ol hx] at C1
 have c3 := h.c3
 have lg := h.lt
 clear h h1 cb
 go_enter Tryz.func30, Tryz.ntmps30
 go_wp2_with (first
  | (go_at_call 53; (with_reducible refine (C0.out).mono ?_); rintro e w1 ⟨rfl, rfl⟩)
  | (go_at_call 111; (with_reducible refine (C1.out).mono ?_); rintro e w2 ⟨rfl, hb2⟩; have HB2 := Lib.hid (acc B0 hb2); clear hb2))
 go_ret
 exact ⟨rfl, HB2.out⟩
theorem yyp : ∃ i, Tryz.prog.info? 152 = some i ∧ i.zero = some (.agg #[.int .u64 0, .int .u64 0, .int .i64 0, .int .i64 0]) ∧ i.size = 4 ∧ i.bytes = 32 := by
 have h : (Tryz.prog.info? 152).map (fun i => (i.zero, i.size, i.bytes)) = some (some (.agg #[.int .u64 0, .int .u64 0, .int .i64 0, .int .i64 0]), 4, 32) := by kernel_rfl
 obtain ⟨i, hi, hx⟩ := Option.map_eq_some_iff.1 h
 simp only [Prod.mk.injEq] at hx
 exact ⟨i, hi, hx⟩
theorem yyq (g o k d : Nat) (news : List Value) (W : World) (hl : news.length = k * 4) (hk : k ≤ 100000) (hnews : ∀ j u, news[j]? = some u → W.cell? ((⟨g, o, none⟩ : Addr).add j) = some u) (h1 : ∀ u ∈ news, u.oneCell' = true) :
  Calls Tryz.prog 121 #[.slice (some ⟨g, o, none⟩) k d] W fun e w' => ∃ v', e = .returned v' ∧ w'.ownsRow W.heap.size 152 4 v' k news ∧ Below W.heap.size W w' := by
 obtain ⟨i0, hi0, hz0, hs0, hb0⟩ := yyp
 have HS : ∀ ob : Obj, Hid (∀ j u, news[j]? = some u → (W.alloc ob).cell? ((⟨g, o, none⟩ : Addr).add j) = some u) := fun ob j u hj => Lib.cell?_alloc_some _ (hnews j u hj)
 have HO := fun cs => Lib.hid (World.ownsRow_made (base := W.heap.size) (e := 152) (size := 4) W cs 0 (Nat.le_refl _) (Nat.zero_le _))
 have HL := Lib.hid hl
 have hq := Lib.run_eql_slice_nil (P := Tryz.prog) W 72 152 (some ⟨g, o, none⟩) k d 0 0 Tryz.underlying72
 clear hnews hl
 go_enter Tryz.func121, Tryz.ntmps121
 go_wp2_with (at_builtin; go_must (refine wpList_append_own _ rfl (.tmp 5) (.tmp 6) 72 rfl W.heap.size 152 i0 (.agg #[.int .u64 0, .int .u64 0, .int .i64 0, .int .i64 0]) 4 32 Tryz.underlying72 hi0 hz0 hs0 hb0 rfl (by decide) (.slice (some ⟨W.heap.size, 0, none⟩) 0 0) 0 [] rfl ((HO _).out (by rfl)) ⟨g, o, none⟩ k d news rfl HL.out (HS _).out h1 (by unfold maxLen; omega) (by omega) (by simp) ?_); intro v' w1 hown1 hg1 hnil; have HO1 := Lib.hid hown1; have HG := Lib.hid hg1; clear hown1 hg1 hnil)
 go_ret
 exact ⟨_, rfl, by simpa using HO1.out, ((Below.refl _ _).alloc (Nat.le_refl _) _).grown HG.out (by simp) (fun q hq => by have h9 : W.heap.size = q := Option.some.inj hq; omega)⟩
theorem yyr (a b : Int) : a ≤ max a b ∧ b ≤ max a b ∧ (b ≤ a → max a b = a) ∧ (¬ b ≤ a → max a b = b) := by omega
theorem yys (c : Nat) (W : World) : Calls Tryz.prog 121 #[.slice none 0 c] W fun e w' => e = .returned (.slice none 0 0) ∧ w' = W := by
 have hq := Lib.run_eql_slice_nil (P := Tryz.prog) W 72 152 none 0 c 0 0 Tryz.underlying72
 go_enter Tryz.func121, Tryz.ntmps121
 go_wp2
 go_ret
 exact ⟨rfl, rfl⟩
theorem ypg (l : List AO) (nd : Int) (A : Option Addr) (c n : Nat) (W : World) (h : ya9 W (.slice A n c) n nd l) (hn : n ≤ 100000) : Calls Tryz.prog 121 #[.slice A n c] W fun e w' => ∃ A' c', e = .returned (.slice A' n c') ∧ ycr w' W.heap.size (.slice A' n c') n nd l ∧ Below W.heap.size W w' := by
 rcases h.2 with ⟨h0, h1⟩ | ⟨q, o, c', cur, h0, _⟩
 ·injection h0 with e1 e2 e3
  subst e1 e2
  refine (yys c W).mono ?_
  rintro e w' ⟨rfl, rfl⟩
  have : l = [] := List.length_eq_zero_iff.1 (yc8 h)
  subst this
  exact ⟨none, 0, rfl, World.ownsRow_nil _ _ _ _, Below.refl _ _⟩
 ·injection h0 with e1 e2 e3
  subst e1
  refine (yyq q o n c _ W h.1 hn (fun j u hj => by rw [Go.WideShapes.add_plain]; exact h.cells j u hj) (yev _ _)).mono ?_
  rintro e w' ⟨v', rfl, h1, h2⟩
  obtain ⟨A', c', rfl⟩ := yav h1
  exact ⟨A', c', rfl, h1, h2⟩
theorem yyt {w : World} {g : Nat} {s : HO} {F : List Nat} (hk : s.k ≤ 1000) (h : VD w g s F) : Calls Tryz.prog 40 #[.pointer (some ⟨g, 0, none⟩)] w fun e w' => ∃ (l : List AO) (A : Option Addr) (c : Nat), e = .returned (.slice A l.length c) ∧ w'.ownsRow w.heap.size 152 4 (.slice A l.length c) l.length (yh0 l s.nd) ∧
  Arcs l ∧ (∀ x, x < 18446744073709551616 → kn l x = (s.own x).map fun e => (0, e)) ∧ Below w.heap.size w w' := by
 obtain ⟨l, S, sp, Fs, Fg, h, rfl⟩ := h
 have C0 := Lib.hid (ydb g sp w h.c4)
 obtain ⟨A, c, rfl, _, _⟩ := h.row.shape
 have C1 := Lib.hid (ypg l s.nd A c l.length w h.row (by have := h.few; omega))
 have c3 := h.c3
 have HO := Lib.hid h.ol
 clear h hk
 go_enter Tryz.func40, Tryz.ntmps40
 go_wp2_with (first
  | (go_at_call 53; (with_reducible refine (C0.out).mono ?_); rintro e w1 ⟨rfl, rfl⟩)
  | (go_at_call 121; (with_reducible refine (C1.out).mono ?_); rintro e w2 ⟨A', c', rfl, ho, hb2⟩; have HB2 := Lib.hid hb2; have HR2 := Lib.hid ho; clear hb2 ho))
 go_ret
 exact ⟨l, A', c', rfl, HR2.out, HO.out.arcs, fun x hx => HO.out.kn hx, HB2.out⟩
theorem yyu {w : World} {g : Nat} {s : HO} {F : List Nat} (hk : s.k ≤ 1000) (h : VD w g s F) : Calls Tryz.prog 42 #[.pointer (some ⟨g, 0, none⟩)] w fun e w' => ∃ (l m : List AO) (A : Option Addr) (c : Nat), e = .returned (.slice A l.length c) ∧ yl5 w' w.heap.size (.slice A l.length c) l.length (yh0 l s.nd) ∧
  Arcs m ∧ (∀ x, x < 18446744073709551616 → kn m x = (s.own x).map fun _ => (0, 0)) ∧ m.length = l.length ∧ (∀ (i : Nat) (p q : AO), l[i]? = some p → m[i]? = some q → p.f = q.f ∧ p.t = q.t ∧ ydf s.own (fun x => inB p.f p.t x = true) p.e) ∧ Below w.heap.size w w' := by
 obtain ⟨l, S, sp, Fs, Fg, h, rfl⟩ := h
 have C0 := Lib.hid (ydb g sp w h.c4)
 obtain ⟨A, c, rfl, _, _⟩ := h.row.shape
 have C1 := Lib.hid (ypg l s.nd A c l.length w h.row (by have := h.few; omega))
 have C2 : Hid (∀ (W : World) (A : Option Addr) (c : Nat), ya9 W (.slice A l.length c) l.length s.nd l → Calls Tryz.prog 117 #[.slice A l.length c, .func (.func 124) #[] #[]] W (ygu true W A l.length c s.nd l)) := fun W A c hr => yto l s.nd A c _ W hr (by have := h.few; omega) h.ol.arcs.lt
 have c3 := h.c3
 have HO := Lib.hid h.ol
 clear h hk
 go_enter Tryz.func42, Tryz.ntmps42
 go_wp2_with (first
  | (go_at_call 53; (with_reducible refine (C0.out).mono ?_); rintro e w1 ⟨rfl, rfl⟩)
  | (go_at_call 117; (with_reducible refine (C2.out _ _ _ (yd8 HR2.out)).mono ?_); rintro e w3 ⟨D, S, hp, hs, rfl, ho, hn, ht⟩; have HP := Lib.hid hp; have HS := Lib.hid hs; have HR3 := Lib.hid ho; have HN := Lib.hid hn; have HT := Lib.hid ht; clear hp hs ho hn ht)
  | (go_at_call 121; (with_reducible refine (C1.out).mono ?_); rintro e w2 ⟨A', c', rfl, ho, hb2⟩; have HB2 := Lib.hid hb2; have HR2 := Lib.hid ho; clear hb2 ho))
 go_ret
 have hm : ∀ p, p ∈ D ↔ p ∈ l := fun p => HP.out.mem_iff
 have hln := yj6 (fun o ho => HO.out.arcs.lt o ((hm o).1 ho)) HS.out (yj7 HP.out HO.out.arcs.apart)
 obtain ⟨k1, k2, k3, k4⟩ := yss (own := s.own) hln (fun o ho => HO.out.arcs.lt o ((hm o).1 ho)) (fun o ho => HO.out.nd o ((hm o).1 ho)) (fun x hx e => by rw [HO.out.ow x hx e]; exact ⟨fun ⟨o, h1, h2⟩ => ⟨o, (hm o).2 h1, h2⟩, fun ⟨o, h1, h2⟩ => ⟨o, (hm o).1 h1, h2⟩⟩)
 obtain ⟨A3, c3', rfl, _, _⟩ := HR3.out.shape
 have hb3 : Below w.heap.size w w3 := Touch.acc HB2.out HT.out (fun q hq => (HR2.out.lt q (Option.mem_toList.1 hq)).1)
 refine ⟨ya2 true D, (ya2 true D).map AO.zero, A3, c3', rfl, ⟨HR3.out, fun q hq => Nat.le_trans HB2.out.size (HN.out q hq)⟩, k1, k2, by simp, fun i p q hp hq => ?_, hb3⟩
 rw [List.getElem?_map, hp] at hq
 obtain rfl := Option.some.inj hq
 obtain ⟨_, a, b⟩ := k3 p (List.mem_of_getElem? hp)
 exact ⟨rfl, rfl, fun x y hx => a x y hx, b⟩
theorem yyv {w : World} {g : Nat} {s : HO} {F : List Nat} (hk : s.k ≤ 1000) (h : VD w g s F) : Calls Tryz.prog 45 #[.pointer (some ⟨g, 0, none⟩)] w fun e w' => (∃ ep : Int, e = .returned (.int .i64 ep) ∧ (ydf s.own (fun _ => True) ep ∨ ((∀ x, x < 18446744073709551616 → s.own x = none) ∧ ep = 0))) ∧ Below w.heap.size w w' := by
 obtain ⟨l, S, sp, Fs, Fg, h, rfl⟩ := h
 have C0 := Lib.hid (ydb g sp w h.c4)
 obtain ⟨A, c, rfl, _, _⟩ := h.row.shape
 have c3 := h.c3
 have HO := Lib.hid h.ol
 have HR := Lib.hid h.row
 obtain ⟨n, hn⟩ : ∃ n, l.length = n := ⟨_, rfl⟩
 have HN := Lib.hid hn
 have hn2 : n ≤ 10000 := by have := h.few; omega
 rw [hn] at HR c3
 clear h hk hn
 go_enter Tryz.func45, Tryz.ntmps45
 go_wp2_with (go_at_call 53; (with_reducible refine (C0.out).mono ?_); rintro e w1 ⟨rfl, rfl⟩)
 go_loopg [3, 13] (n + 1) (fun gh s3 s13 wx => ∃ (i : Nat) (ep : Int), i + gh = n + 1 ∧ i ≤ n ∧ s3 = .int .i64 ep ∧ s13 = .int .i64 (i : Nat) ∧ Hid ((∀ p ∈ l.take i, p.e ≤ ep) ∧ 0 ≤ ep ∧ (i = 0 → ep = 0) ∧ (0 < i → ∃ p ∈ l.take i, p.e = ep)) ∧ Hid (Below w.heap.size w wx))
 case atStart => exact ⟨0, 0, by omega, by omega, rfl, rfl, ⟨by simp, Int.le_refl _, fun _ => rfl, fun h => absurd h (Nat.lt_irrefl _)⟩, Below.refl _ _⟩
 case round =>
  obtain ⟨i, ep, hig, hin, rfl, rfl, HE, HB⟩ := hrel
  by_cases hlt : i < n
  ·obtain ⟨o, ho⟩ : ∃ o, l[i]? = some o := ⟨_, List.getElem?_eq_getElem (by rw [HN.out]; exact hlt)⟩
   have i1 : (i : Int) < (n : Int) := by omega
   obtain ⟨g5, o5, rfl⟩ := (HR.out.below HB.out).at_ (show 0 < n by omega)
   obtain ⟨x0, x1, x2, x3⟩ := ydj (HR.out.below HB.out) ho
   have HTK : Hid (l.take (i + 1) = l.take i ++ [o]) := by show _ = _; rw [List.take_add_one, ho]; rfl
   have HOE := Lib.hid (HO.out.arcs.rng o (List.mem_of_getElem? ho)).2.2
   obtain ⟨m, hm⟩ : ∃ m, max ep o.e = m := ⟨_, rfl⟩
   have HM := Lib.hid hm
   clear ho
   go_wp2_with fail
   go_roundg (gk - 1)
   case measure => omega
   case rel =>
    refine ⟨i + 1, m, by omega, by omega, rfl, by go_num, ?_, ?_⟩
    ·have hm' := HM.out
     obtain ⟨e1, e2, e3, e4⟩ := HE.out
     have m1 : ep ≤ m ∧ o.e ≤ m ∧ (o.e ≤ ep → m = ep) ∧ (¬ o.e ≤ ep → m = o.e) := hm' ▸ yyr ep o.e
     clear hm'
     refine ⟨fun p hp => ?_, by omega, fun z => absurd z (Nat.succ_ne_zero i), fun _ => ?_⟩
     ·rw [HTK.out] at hp
      rcases List.mem_append.1 hp with z | z
      ·have := e1 p z; omega
      ·rw [List.mem_singleton.1 z]; omega
     ·rw [HTK.out]
      by_cases k : o.e ≤ ep
      ·by_cases k0 : 0 < i
       ·obtain ⟨p, a, b⟩ := e4 k0
        exact ⟨p, by simp [a], by omega⟩
       ·have z0 : i = 0 := Nat.eq_zero_of_not_pos k0
        have := e3 z0
        exact ⟨o, by simp, by have := HOE.out; omega⟩
      ·exact ⟨o, by simp, (m1.2.2.2 k).symm⟩
    ·exact acc HB.out ((Below.refl _ _).alloc (Nat.le_refl _) _)
  ·obtain rfl : i = n := by omega
   go_wp2_with fail
   go_ret
   refine ⟨⟨ep, rfl, ?_⟩, HB.out⟩
   obtain ⟨e1, e2, e3, e4⟩ := HE.out
   rw [List.take_of_length_le (by rw [HN.out]; exact Nat.le_refl _)] at e1 e4
   by_cases k0 : 0 < i
   ·left
    obtain ⟨p, a, b⟩ := e4 k0
    refine ⟨fun x y hx _ hy => ?_, p.f, (HO.out.arcs.lt p a).1, trivial, (HO.out.ow _ (HO.out.arcs.lt p a).1 _).2 ⟨p, a, HO.out.arcs.first a, b⟩⟩
    obtain ⟨o, h1, _, rfl⟩ := (HO.out.ow x hx y).1 hy
    exact e1 o h1
   ·right
    refine ⟨fun x hx => (yeu HO.out.ow hx).2 fun o ho => ?_, e3 (by omega)⟩
    have : l = [] := List.length_eq_zero_iff.1 (by rw [HN.out]; omega)
    rw [this] at ho
    cases ho
theorem HM.gatePost {w w1 : World} {g sp : Nat} {s : HO} {l : List AO} {S : Value} {Fs Fg : List Nat} {gs : GS} (h : HM w g s l S sp Fs Fg) {Fg' : List Nat} (hv : Gi.VG w1 g (hcOf s S sp) gs Fg') (t : Touch Fg w w1) (hn : ∀ q ∈ Fg', q ∈ Fg ∨ w.heap.size ≤ q) (v : Value) : ybz VD w g (hF S Fs Fg) v ⟨s.nd, s.most, s.kept, s.own, s.its, gs, s.k⟩ (.returned v) w1 := by
 refine ⟨_, rfl, ⟨l, S, sp, Fs, Fg', h.setGate hv t hn, rfl⟩, t.mono (fun q hq => yau.2 (.inr (.inr hq))), fun q hq => ?_⟩
 rcases yau.1 hq with z | z | z
 ·exact .inl (yau.2 (.inl z))
 ·exact .inl (yau.2 (.inr (.inl z)))
 ·rcases hn q z with y | y
  ·exact .inl (yau.2 (.inr (.inr y)))
  ·exact .inr y
theorem yyw {w : World} {g : Nat} {s : HO} {F : List Nat} (h : VD w g s F) : Calls Tryz.prog 127 #[.pointer (some ⟨g, 0, none⟩)] w (ybz VD w g F (.tuple #[]) ⟨s.nd, s.most, s.kept, s.own, s.its, s.g.thaw, s.k⟩) := by
 obtain ⟨l, S, sp, Fs, Fg, h, rfl⟩ := h
 have C0 := Lib.hid (ydb g sp w h.c4)
 have C1 := Lib.hid (Gi.gateThaw_any h.gate)
 have HH := Lib.hid h
 clear h
 go_enter Tryz.func127, Tryz.ntmps127
 go_wp2_with (first
  | (go_at_call 53; (with_reducible refine (C0.out).mono ?_); rintro e w1 ⟨rfl, rfl⟩)
  | (go_at_call 131; (with_reducible refine (C1.out).mono ?_); rintro e w2 ⟨Fg', rfl, h1, h2, h3⟩; have H1 := Lib.hid h1; have H2 := Lib.hid h2; have H3 := Lib.hid h3; clear h1 h2 h3))
 go_end0
 exact HH.out.gatePost H1.out H2.out H3.out _
theorem yyx (nd most : Int) (w : World) (h0 : Wide nd) (h1 : Wide most) : Calls Tryz.prog 31 #[.int .i64 nd, .int .i64 most] w fun e w' =>
  ∃ g F, e = .returned (.pointer (some ⟨g, 0, none⟩)) ∧ VD w' g (HO.new nd most) F ∧ (∀ q ∈ F, w.heap.size ≤ q) ∧ Below w.heap.size w w' := by
 have C0 := Lib.hid (yb2.new w most h1.1 h1.2)
 have HW := Lib.hid h0
 obtain ⟨m, hm⟩ : ∃ m, min (max most 0) 200 = m := ⟨_, rfl⟩
 rw [hm] at C0
 have HM1 := Lib.hid hm
 go_enter Tryz.func31, Tryz.ntmps31
 go_wp2_with (go_at_call 114; (with_reducible refine (C0.out).mono ?_); rintro e w1 ⟨sp, Fs, rfl, k1, k2, k3⟩; have K1 := Lib.hid k1; have K2 := Lib.hid k2; have K3 := Lib.hid k3; clear k1 k2 k3)
 go_ret
 have hb : Below w1.heap.size w1 (w1.alloc (.cells (Gi.hC ⟨.int .i64 nd, .int .i64 m, .int .i64 (0 : Nat), .slice none 0 0, .pointer (some ⟨sp, 0, none⟩)⟩ G0 (Gi.gNil :: List.replicate 39 Gi.gNil)).toArray 115)) := (Below.refl _ _).alloc (Nat.le_refl _) _
 have hg : Gi.VG (w1.alloc (.cells (Gi.hC ⟨.int .i64 nd, .int .i64 m, .int .i64 (0 : Nat), .slice none 0 0, .pointer (some ⟨sp, 0, none⟩)⟩ G0 (Gi.gNil :: List.replicate 39 Gi.gNil)).toArray 115)) w1.heap.size ⟨.int .i64 nd, .int .i64 m, .int .i64 (0 : Nat), .slice none 0 0, .pointer (some ⟨sp, 0, none⟩)⟩ G0 [w1.heap.size] := Gi.vg_zero (heap_alloc_new w1 _)
 have hs := K1.out.touch (Touch.ofBelow (F := []) hb) (by simp)
 have hlt := K1.out.ltF
 refine ⟨w1.heap.size, hF (.slice none 0 0) Fs [w1.heap.size], rfl, ⟨[], .slice none 0 0, sp, Fs, [w1.heap.size], ?_, rfl⟩, fun q hq => ?_, acc K3.out hb⟩
 ·refine ⟨?_, OwnAt.nil _ _ _, ?_, OwnL.nil, Nat.zero_le _, HW.out, fun x hx => (by cases hx), Nat.zero_le _, fun q hq z => ?_, fun q hq => (by cases hq)⟩
  ·show Gi.VG _ _ ⟨.int .i64 nd, .int .i64 (min (max most 0) 200), .int .i64 (0 : Nat), .slice none 0 0, .pointer (some ⟨sp, 0, none⟩)⟩ _ _
   rw [HM1.out]
   exact hg
  ·show SH _ sp (min (max most 0) 200) [] Fs
   rw [HM1.out]
   exact hs
  ·have := hlt q hq
   rw [List.mem_singleton.1 z] at this
   exact Nat.lt_irrefl _ this
 ·rcases yau.1 hq with z | z | z
  ·cases z
  ·exact K2.out q z
  ·rw [List.mem_singleton.1 z]
   exact K3.out.size
theorem yph {w : World} {g sp : Nat} {s : HO} {l : List AO} {S : Value} {Fs Fg : List Nat} (h : HM w g s l S sp Fs Fg) : Calls Tryz.prog 137 #[.pointer (some ⟨g, 0, none⟩)] w fun e w' => e = .returned (.int .i64 (s.most - (s.its.length : Nat) - (s.kept : Nat))) ∧ Below w.heap.size w w' := by
 have hd := h.below (Below.refl w.heap.size w).drew
 have C0 := Lib.hid (yb2.len hd.shelf)
 have HC : Hid (∀ w', Below w.heap.size w w' → w'.cell? ⟨g, 1, none⟩ = some (.int .i64 s.most) ∧ w'.cell? ⟨g, 2, none⟩ = some (.int .i64 (s.kept : Nat)) ∧ w'.cell? ⟨g, 4, none⟩ = some (.pointer (some ⟨sp, 0, none⟩))) := fun w' hb => ⟨(h.below hb).gate.cells.2.1, (h.below hb).gate.cells.2.2.1, (h.below hb).c4⟩
 have h2 := h.its200
 have h3 := h.kept
 have w1 : IntKind.i64.wrap (s.most - (s.its.length : Nat)) = s.most - (s.its.length : Nat) := by rw [IntKind.wrap_i64]; omega
 have w2 : IntKind.i64.wrap (s.most - (s.its.length : Nat) - (s.kept : Nat)) = s.most - (s.its.length : Nat) - (s.kept : Nat) := by rw [IntKind.wrap_i64]; omega
 generalize s.kept = kp at *
 generalize s.its.length = ln at *
 generalize s.most = mo at *
 have S0 := Lib.hid (HC.out _ (Below.refl w.heap.size w).drew)
 clear h hd h2 h3
 go_enter Tryz.func137, Tryz.ntmps137
 go_upto_region 1 with fail
 refine ybe (fun w' => w'.cell? ⟨g, 1, none⟩ = some (.int .i64 mo) ∧ w'.cell? ⟨g, 2, none⟩ = some (.int .i64 (kp : Nat)) ∧ w'.cell? ⟨g, 4, none⟩ = some (.pointer (some ⟨sp, 0, none⟩))) 15 (by kernel_rfl) ?_ (fun hHeld => ?_)
 ·(try dsimp only); exact S0.out
 refine wtP 0 ?_
 try simp only [Act.put, wsA, wsB, wsC]
 refine wtP 1 ?_
 try simp only [Act.put, wsA, wsB, wsC]
 refine wtP 2 ?_
 try simp only [Act.put, wsA, wsB, wsC]
 refine wtP 4 ?_
 try simp only [Act.put, wsA, wsB, wsC]
 refine wtP 5 ?_
 try simp only [Act.put, wsA, wsB, wsC]
 refine wtP 6 ?_
 try simp only [Act.put, wsA, wsB, wsC]
 refine wtP 10 ?_
 try simp only [Act.put, wsA, wsB, wsC]
 refine wtP 11 ?_
 try simp only [Act.put, wsA, wsB, wsC]
 refine wtP 12 ?_
 try simp only [Act.put, wsA, wsB, wsC]
 refine wtT 3 ?_
 try simp only [Act.put, wsA, wsB, wsC]
 refine wtT 7 ?_
 try simp only [Act.put, wsA, wsB, wsC]
 refine wtT 13 ?_
 try simp only [Act.put, wsA, wsB, wsC]
 refine wtC 8 fun K hK => ?_
 go_simp
 (first | (go_at_call 125; (with_reducible refine (C0.out).mono ?_); rintro e w1 ⟨rfl, hb1⟩))
 have HB1 : Hid (Below w.heap.size w w1) := ((Below.refl w.heap.size w).drew).trans hb1
 clear hb1
 go_wp2_with fail
 refine hK.out _ _ (by (try dsimp only); (first | exact HC.out _ HB1.out | exact S0.out)) (fun hHeld => ?_)
 clear hK K
 try simp only [Act.put, wsA, wsB, wsC]
 refine wtP 9 ?_
 try simp only [Act.put, wsA, wsB, wsC]
 refine wtP 14 ?_
 try simp only [Act.put, wsA, wsB, wsC]
 refine wtD 15 fun K hK => ?_
 go_simp
 refine hK.out _ _ ?_
 clear hK K
 try simp only [Act.put, wsA, wsB, wsC]
 refine ya8 (by kernel_rfl) ?_ _
 go_wp2_with fail
 go_ret
 first
  | exact ⟨rfl, HB1.out⟩
  | (rw [← w2]; exact ⟨rfl, HB1.out⟩)
theorem yyy {s : HO} {l : List AO} (h : OwnL l s.own) {f t : Nat} {ep : Int} (hf : f < 18446744073709551616) (ht : t < 18446744073709551616) (h0 : 0 ≤ ep) : (!l.any (yew f t)) = true ↔ s.may f t ep := by
 rw [Bool.not_eq_true', List.any_eq_false]
 have := may_iff h hf ht
 constructor
 ·intro z
  exact ⟨h0, this.1 fun o ho => by simpa [yew] using z o ho⟩
 ·intro z o ho
  have := this.2 z.2 o ho
  simp [yew, this]
theorem yyz {w : World} {g sp : Nat} {s : HO} {l : List AO} {S : Value} {Fs Fg : List Nat} (f t : Nat) (ep : Int) (hf : f < 18446744073709551616) (ht : t < 18446744073709551616) (hk : s.k ≤ 1000) (h : HM w g s l S sp Fs Fg) : Calls Tryz.prog 116 #[.pointer (some ⟨g, 0, none⟩), .agg (a2 f t), .int .i64 ep] w fun e w' =>
  ∃ b, e = .returned (.bool b) ∧ (b = true ↔ s.may f t ep) ∧ Below w.heap.size w w' := by
 have B0 : Below w.heap.size w (w.alloc (.cells (a2 f t) 25)) := (Below.refl _ _).alloc (Nat.le_refl _) _
 have h1 := h.below B0
 obtain ⟨A, c, rfl, _, _⟩ := h1.row.shape
 have hbx := (Bx.new w (a2 f t) 25)
 have C1 := Lib.hid (ys7 l s.nd (yew f t) w.heap.size A c l.length _ (by have := h1.few; omega) h1.row (fun w' o hb ho => ys3 o s.nd f t w.heap.size w' (h1.ol.arcs.lt o ho) hf ht (hbx.below hb).two.1 (hbx.below hb).two.2.1))
 have c3 := h.c3
 have lg := h.lt
 by_cases h0 : ep < 0
 ·have d0 : decide (ep < 0) = true := decide_eq_true h0
  clear h h1 hbx
  go_enter Tryz.func116, Tryz.ntmps116
  go_wp2_with fail
  go_ret
  exact ⟨false, rfl, ⟨fun z => (by cases z), fun z => by have := z.1; omega⟩, B0⟩
 ·have d0 : decide (ep < 0) = false := decide_eq_false h0
  have HMAY := Lib.hid (yyy (s := s) h.ol hf ht (ep := ep) (by omega))
  generalize l.any (yew f t) = bb at *
  clear h h1 hbx
  go_enter Tryz.func116, Tryz.ntmps116
  go_wp2_with (go_at_call 111; (with_reducible refine (C1.out).mono ?_); rintro e w2 ⟨rfl, hb2⟩; have HB2 := Lib.hid (acc B0 hb2); clear hb2)
  go_ret
  exact ⟨!bb, rfl, HMAY.out, HB2.out⟩
theorem yy0 {w : World} {g sp : Nat} {s : HO} {l : List AO} {S : Value} {Fs Fg : List Nat} (f t : Nat) (ep : Int) (hf : f < 18446744073709551616) (ht : t < 18446744073709551616) (hw : Wide ep) (hk : s.k ≤ 1000) (h : HM w g s l S sp Fs Fg) : Calls Tryz.prog 33 #[.pointer (some ⟨g, 0, none⟩), .agg (a2 f t), .int .i64 ep] w fun e w' =>
  (s.may f t ep ∧ ∃ l2 S2, e = .returned (.bool true) ∧ HM w' g (s.take f t ep) l2 S2 sp Fs Fg ∧ Touch (S.ownBlock.toList ++ Fg) w w' ∧ ∀ q, S2.ownBlock = some q → w.heap.size ≤ q) ∨ (¬ s.may f t ep ∧ e = .returned (.bool false) ∧ Below w.heap.size w w') := by
 have B0 : Below w.heap.size w (w.alloc (.cells (a2 f t) 25)) := (Below.refl _ _).alloc (Nat.le_refl _) _
 have hbx := (Bx.new w (a2 f t) 25)
 have h1 := h.below B0
 have C0 := Lib.hid (ydb g sp _ h1.c4)
 have C1 := Lib.hid (yyz f t ep hf ht hk h1)
 have HH := Lib.hid h
 have lg := h.lt
 have HFT : Hid (f < 18446744073709551616 ∧ t < 18446744073709551616) := ⟨hf, ht⟩
 have HWE := Lib.hid hw
 have hk2 : l.length ≤ 2000 := by have := h.few; omega
 clear h1 hk hf ht hw h
 go_enter Tryz.func33, Tryz.ntmps33
 go_upto_region 1 with fail
 obtain ⟨b4, hb4⟩ : ∃ b4, w.heap.size = b4 := ⟨_, rfl⟩
 rw [hb4] at hbx lg
 obtain ⟨w1, hw1⟩ : ∃ w1, w.alloc (.cells (a2 f t) 25) = w1 := ⟨_, rfl⟩
 rw [hw1] at B0 hbx C0 C1 ⊢
 clear hw1
 have HB4 := Lib.hid hb4
 simp only [hb4]
 have HBX := Lib.hid hbx
 have HB0 := Lib.hid B0
 obtain ⟨u0, u1, _⟩ := hbx.two
 clear B0 hbx hb4
 go_upto_region 3 with (first
  | (go_at_call 53; (with_reducible refine (C0.out).mono ?_); rintro e w2 ⟨rfl, rfl⟩)
  | (go_at_call 116; (with_reducible refine (C1.out).mono ?_); rintro e w2 ⟨b, rfl, hb, hb2⟩; have HBI := Lib.hid hb; have HB2 : Hid (Below w.heap.size w w2) := (acc HB0.out hb2); have HX2 := Lib.hid (HBX.out.below hb2); clear hb hb2; cases b))
 ·go_wp2_with fail
  go_ret
  exact .inr ⟨(by simpa using HBI.out : ¬ s.may f t ep), rfl, HB2.out⟩
 ·go_upto_region 3 with fail
  have HMAY : Hid (s.may f t ep) := (by simpa using HBI.out : s.may f t ep)
  have h2 := HH.out.below HB2.out
  obtain ⟨A, c, rfl, hnc, hc⟩ := h2.row.shape
  have H2 := Lib.hid h2
  have hgn : g ∉ (Value.slice A l.length c).ownBlock.toList := fun z => (h2.d2 g (Option.mem_toList.1 z)).2 h2.gate.cells.2.2.2.2.2.2.2
  have hbn : b4 ∉ (Value.slice A l.length c).ownBlock.toList := fun z => by have := HH.out.row.lt b4 (Option.mem_toList.1 z); rw [HB4.out] at this; exact Nat.lt_irrefl _ this
  have HSS : Hid (∀ w', Touch (Value.slice A l.length c).ownBlock.toList w2 w' → w'.cell? ⟨g, 3, none⟩ = some (.slice A l.length c) ∧ w'.cell? ⟨g, 0, none⟩ = some (.int .i64 s.nd) ∧ w'.cell? ⟨b4, 0, none⟩ = some (.int .u64 (f : Nat)) ∧ w'.cell? ⟨b4, 1, none⟩ = some (.int .u64 (t : Nat))) := fun w' tt =>
   ⟨(tt.cell (p := ⟨g, 3, none⟩) h2.lt hgn).trans h2.c3, (tt.cell (p := ⟨g, 0, none⟩) h2.lt hgn).trans h2.gate.cells.1, ((HX2.out.touch tt hbn).two).1, ((HX2.out.touch tt hbn).two).2.1⟩
  have HFZ : Hid (∀ w', Touch (Value.slice A l.length c).ownBlock.toList w2 w' → w'.frozen? ⟨g, 3, none⟩ = false) := fun w' tt => (tt.frozen (p := ⟨g, 3, none⟩) h2.lt hgn).trans (h2.gate.cells.2.2.2.2.2.1 3)
  have HROW := Lib.hid h2.row
  have HOL := Lib.hid h2.ol
  obtain ⟨n, hn⟩ : ∃ n, l.length = n := ⟨_, rfl⟩
  have HN := Lib.hid hn
  rw [hn] at HSS HFZ HROW hk2
  have hAn : (Value.slice A l.length c) = (Value.slice A n c) := by rw [hn]
  have HAN := Lib.hid hAn
  obtain ⟨i0, z0, hi0, hz0, hs0, hb0, hzc⟩ := ygr
  clear h2 hgn hbn u0 u1 hnc hn hAn
  refine ybe (fun w' => w'.cell? ⟨g, 3, none⟩ = some (.slice A n c) ∧ w'.cell? ⟨g, 0, none⟩ = some (.int .i64 s.nd) ∧ w'.cell? ⟨b4, 0, none⟩ = some (.int .u64 (f : Nat)) ∧ w'.cell? ⟨b4, 1, none⟩ = some (.int .u64 (t : Nat))) 17 (by kernel_rfl) ?_ (fun hHeld => ?_)
  ·(try dsimp only); exact HSS.out _ (Touch.ofBelow (Below.refl _ _).drew)
  refine wtP 0 ?_
  try simp only [Act.put, wsA, wsB, wsC]
  refine wtP 1 ?_
  try simp only [Act.put, wsA, wsB, wsC]
  refine wtP 2 ?_
  try simp only [Act.put, wsA, wsB, wsC]
  refine wtP 3 ?_
  try simp only [Act.put, wsA, wsB, wsC]
  refine wtP 6 ?_
  try simp only [Act.put, wsA, wsB, wsC]
  refine wtP 7 ?_
  try simp only [Act.put, wsA, wsB, wsC]
  refine wtP 8 ?_
  try simp only [Act.put, wsA, wsB, wsC]
  refine wtP 10 ?_
  try simp only [Act.put, wsA, wsB, wsC]
  refine wtT 4 ?_
  try simp only [Act.put, wsA, wsB, wsC]
  refine wtT 5 ?_
  try simp only [Act.put, wsA, wsB, wsC]
  refine wtT 9 ?_
  try simp only [Act.put, wsA, wsB, wsC]
  refine wtC 11 fun K hK => ?_
  go_simp
  refine hK.out _ _ (by (try dsimp only); (first | exact HSS.out _ HT6.out | exact HSS.out _ HT5.out | exact HSS.out _ (Touch.ofBelow ((Below.refl _ _).drew.alloc (Nat.le_refl _) _)) | exact HSS.out _ (Touch.ofBelow (Below.refl _ _).drew))) (fun hHeld => ?_)
  clear hK K
  try simp only [Act.put, wsA, wsB, wsC]
  refine wtC 12 fun K hK => ?_
  go_simp
  refine hK.out _ _ (by (try dsimp only); (first | exact HSS.out _ HT6.out | exact HSS.out _ HT5.out | exact HSS.out _ (Touch.ofBelow ((Below.refl _ _).drew.alloc (Nat.le_refl _) _)) | exact HSS.out _ (Touch.ofBelow (Below.refl _ _).drew))) (fun hHeld => ?_)
  clear hK K
  try simp only [Act.put, wsA, wsB, wsC]
  refine wtC 13 fun K hK => ?_
  refine yq2 rfl (.tmp 20) (.tmp 28) 72 rfl 152 i0 z0 4 32 Tryz.underlying72 hi0 hz0 hs0 hb0 hzc (.slice A n c) n (rowC (oC s.nd) l) rfl (HROW.out.below ((Below.refl _ _).drew.alloc (Nat.le_refl _) _)) ⟨w2.heap.size, 0, none⟩ 1 (rowC (oC s.nd) [⟨f, t, 0, ep⟩]) rfl rfl (fun j u hu => ygt w2.drew s.nd ⟨f, t, 0, ep⟩ j u hu) (yev _ _) (by unfold maxLen; omega) (by omega) ?_
  intro A5 c5 w5 ho5 hg5 hs5
  have HT5 : Hid (Touch (Value.slice A n c).ownBlock.toList w2 w5) := ((Touch.ofBelow ((Below.refl _ _).drew.alloc (Nat.le_refl _) _)).grown hg5 (fun k hk => .inl (Option.mem_toList.2 hk)))
  have HO5 : Hid (ya9 w5 (.slice A5 (n + 1) c5) (n + 1) s.nd (l ++ [⟨f, t, 0, ep⟩])) := (by show OwnAt _ _ _ _ _ _; rw [yc2]; exact ho5)
  have HS5 := Lib.hid hs5
  clear ho5 hg5 hs5
  refine hK.out _ _ (by (try dsimp only); (first | exact HSS.out _ HT6.out | exact HSS.out _ HT5.out | exact HSS.out _ (Touch.ofBelow ((Below.refl _ _).drew.alloc (Nat.le_refl _) _)) | exact HSS.out _ (Touch.ofBelow (Below.refl _ _).drew))) (fun hHeld => ?_)
  clear hK K
  try simp only [Act.put, wsA, wsB, wsC]
  refine wtC 14 fun K hK => ?_
  go_simp
  (first | (go_at_call 117; (with_reducible refine (ym5 (l ++ [⟨f, t, 0, ep⟩]) s.nd A5 c5 (n + 1) w5 HO5.out (by omega) (by
   intro p hp
   rcases List.mem_append.1 hp with z | z
   ·exact HOL.out.arcs.lt p z
   ·rw [List.mem_singleton.1 z]; exact HFT.out)).mono ?_); rintro e w6 ⟨D, S2, hp, hs, rfl, ho, hn6, ht6⟩))
  obtain ⟨A6, c6, rfl, hcc1, hcc2⟩ := ho.shape
  clear hcc1 hcc2
  have HP := Lib.hid hp
  have HSO := Lib.hid hs
  have HO6 := Lib.hid ho
  have HN6 := Lib.hid hn6
  have HT6 : Hid (Touch (Value.slice A n c).ownBlock.toList w2 w6) := HT5.out.trans ht6 (fun q hq => by
   rcases HS5.out q (Option.mem_toList.1 hq) with z | z
   ·exact .inl (Option.mem_toList.2 z)
   ·exact .inr (by simp at z; omega))
  have f3 := HFZ.out _ HT6.out
  obtain ⟨y3, y0, y4, y5⟩ := HSS.out _ HT6.out
  clear hp hs ho hn6 ht6
  go_wp2_with fail
  refine hK.out _ _ (by (try dsimp only); (first | exact HSS.out _ HT6.out | exact HSS.out _ HT5.out | exact HSS.out _ (Touch.ofBelow ((Below.refl _ _).drew.alloc (Nat.le_refl _) _)) | exact HSS.out _ (Touch.ofBelow (Below.refl _ _).drew))) (fun hHeld => ?_)
  clear hK K
  try simp only [Act.put, wsA, wsB, wsC]
  refine wtP 15 ?_
  try simp only [Act.put, wsA, wsB, wsC]
  refine wtP 16 ?_
  try simp only [Act.put, wsA, wsB, wsC]
  refine wtD 17 fun K hK => ?_
  go_simp
  refine hK.out _ _ ?_
  clear hK K
  try simp only [Act.put, wsA, wsB, wsC]
  refine ya8 (by kernel_rfl) ?_ _
  go_wp2_with fail
  go_ret
  refine .inl ⟨HMAY.out, ya2 false D, _, rfl, ?_, ?_, fun q hq => Nat.le_trans HB2.out.size (Nat.le_trans HT5.out.size (HN6.out q hq))⟩
  ·have hm := (may_iff HOL.out HFT.out.1 HFT.out.2).2 HMAY.out.2
   obtain ⟨k1, k2⟩ := yst HOL.out HFT.out.1 HFT.out.2 HMAY.out.1 HWE.out.2 hm HP.out HSO.out
   have z := H2.out.setOwned k1 (by omega) (by rw [HAN.out]; exact HT6.out) HO6.out (fun q hq => Nat.le_trans HT5.out.size (HN6.out q hq))
   first | exact z | exact z.below (Below.refl _ _).drew
  ·have hg : g ∈ (Value.slice A l.length c).ownBlock.toList ++ Fg := List.mem_append_right _ H2.out.gate.cells.2.2.2.2.2.2.2
   have z : Touch ((Value.slice A l.length c).ownBlock.toList ++ Fg) w w6 := (Touch.ofBelow HB2.out).trans HT6.out (fun q hq => .inl (List.mem_append_left _ (by rw [HAN.out]; exact hq)))
   first | exact z.set (.inl hg) _ | exact (z.set (.inl hg) _).drew
end Go.Proofs.YtnjodhglbapnlaaGreat
namespace Go.Proofs.YtnjodhglbapnlaaGreat.Hd
open Go.RowKit Go.Proofs.YtnjodhglbapnlaaGreat
end Go.Proofs.YtnjodhglbapnlaaGreat.Hd
namespace Go.Proofs.YtnjodhglbapnlaaGreat
open Go.RowKit
theorem yy1 (l : List Item) (k : ByteArray) : getI l k = getN l k := rfl
theorem yy2 {m : Int} {l : List Item} (hr : yah l) (h : ∀ x ∈ l, yal x.1 = 0 ∧ yas x.2 = 0) (k v : ByteArray) : ∀ x ∈ putS m l k v, yal x.1 = 0 ∧ yas x.2 = 0 := by
 unfold putS
 split
 ·rename_i e
  intro x hx
  rcases (yqk hr k v x).1 hx with rfl | z
  ·exact yyc e
  ·exact h x z.1
 ·exact h
theorem yy3 {w : World} {g : Nat} {s : HO} {F : List Nat} (n : Int) (hn : Wide n) (hk : s.k ≤ 1000) (hl : s.g.l.length ≤ 1000) (h : VD w g s F) : Calls Tryz.prog 49 #[.pointer (some ⟨g, 0, none⟩), .int .i64 n] w fun e w' =>
  (s.g.shut = true ∧ ybz VD w g F (.int .i64 0) (s.lose n) e w') ∨ (s.g.shut = false ∧ ybz VD w g F (.int .i64 10) s e w') := by
 obtain ⟨l, S, sp, Fs, Fg, h, rfl⟩ := h
 have C0 := Lib.hid (ydb g sp w h.c4)
 have C1 := Lib.hid (Gi.gateArc_any h.gate)
 have HH := Lib.hid h
 have hft : s.g.f < 18446744073709551616 ∧ s.g.t < 18446744073709551616 := by
  obtain ⟨_, _, z, _⟩ := h.gate
  exact ⟨z.b.1, z.b.2.1⟩
 obtain ⟨f, hf⟩ : ∃ f, s.g.f = f := ⟨_, rfl⟩
 obtain ⟨t, ht⟩ : ∃ t, s.g.t = t := ⟨_, rfl⟩
 rw [hf, ht] at C1 hft
 have HF := Lib.hid hf
 have HT := Lib.hid ht
 have HFT := Lib.hid hft
 have HK := Lib.hid hk
 have HL := Lib.hid hl
 have HN := Lib.hid hn
 obtain ⟨b, hb⟩ : ∃ b, s.g.shut = b := ⟨_, rfl⟩
 rw [hb] at C1
 rw [hb]
 clear h hf ht hft hk hl hn hb
 go_enter Tryz.func49, Tryz.ntmps49
 go_upto_region 4 with (first
  | (go_at_call 53; (with_reducible refine (C0.out).mono ?_); rintro e w1 ⟨rfl, rfl⟩)
  | (go_at_call 103; (with_reducible refine (C1.out).mono ?_); rintro e w1 ⟨rfl, hb1⟩; have HB1 := Lib.hid hb1; clear hb1))
 cases b
 ·go_wp2_with fail
  go_ret
  first
   | exact .inr ⟨rfl, HH.out.same (HB1.out.alloc HB1.out.size _) _⟩
   | exact HH.out.same (HB1.out.alloc HB1.out.size _) _
 ·go_upto_region 6 with fail
  have h2 := HH.out.below (HB1.out.alloc HB1.out.size (.cells (a2 f t) 25))
  have HC2 : Hid (Below w.heap.size w (w1.alloc (.cells (a2 f t) 25))) := HB1.out.alloc HB1.out.size _
  have hx := Bx.new w1 (a2 f t) 25
  obtain ⟨b5, hb5⟩ : ∃ b5, w1.heap.size = b5 := ⟨_, rfl⟩
  have HB5 : Hid (w.heap.size ≤ b5) := hb5 ▸ HB1.out.size
  rw [hb5] at hx ⊢
  obtain ⟨w2, hw2⟩ : ∃ w2, w1.alloc (.cells (a2 f t) 25) = w2 := ⟨_, rfl⟩
  rw [hw2] at h2 hx HC2 ⊢
  clear hw2 hb5
  have HX2 := Lib.hid hx
  have H2 := Lib.hid h2
  obtain ⟨A, c, rfl, hq1, hq2⟩ := h2.row.shape
  clear hq1 hq2 hx
  have l5 := HX2.out.two.2.2
  have HSS : Hid (∀ w', Below w2.heap.size w2 w' → w'.cell? ⟨g, 3, none⟩ = some (.slice A l.length c) ∧ w'.cell? ⟨b5, 0, none⟩ = some (.int .u64 (f : Nat)) ∧ w'.cell? ⟨b5, 1, none⟩ = some (.int .u64 (t : Nat))) := fun w' tt => ⟨(H2.out.below tt).c3, (HX2.out.below tt).two.1, (HX2.out.below tt).two.2.1⟩
  have CW : Hid (∀ w', Below w2.heap.size w2 w' → Calls Tryz.prog 128 #[.slice A l.length c, .agg (a2 f t)] w' (ym7 w' s.nd l f t)) := fun w' tt => yts l s.nd f t A c l.length w' (H2.out.below tt).row (by have := H2.out.few; have := HK.out; omega) H2.out.ol.arcs.lt H2.out.ol.arcs.apart HFT.out.1 HFT.out.2
  clear h2
  have lg := H2.out.lt
  refine ybe (fun w' => w'.cell? ⟨g, 3, none⟩ = some (.slice A l.length c) ∧ w'.cell? ⟨b5, 0, none⟩ = some (.int .u64 (f : Nat)) ∧ w'.cell? ⟨b5, 1, none⟩ = some (.int .u64 (t : Nat))) 9 (by kernel_rfl) ?_ (fun hHeld => ?_)
  ·(try dsimp only); exact HSS.out _ (Below.refl _ _).drew
  refine wtP 0 ?_
  try simp only [Act.put, wsA, wsB, wsC]
  refine wtP 1 ?_
  try simp only [Act.put, wsA, wsB, wsC]
  refine wtP 2 ?_
  try simp only [Act.put, wsA, wsB, wsC]
  refine wtP 3 ?_
  try simp only [Act.put, wsA, wsB, wsC]
  refine wtT 4 ?_
  try simp only [Act.put, wsA, wsB, wsC]
  refine wtT 5 ?_
  try simp only [Act.put, wsA, wsB, wsC]
  refine wtC 6 fun K hK => ?_
  go_simp
  (first | (go_at_call 128; (with_reducible refine (CW.out _ (Below.refl w2.heap.size w2).drew).mono ?_); rintro e w3 ⟨D, S2, hp, hs, rfl, ho, hn3, hb3⟩))
  obtain ⟨A2, c2, rfl, hq1, hq2⟩ := ho.shape
  clear hq1 hq2
  have HP := Lib.hid hp
  have HSO := Lib.hid hs
  have HO3 := Lib.hid ho
  have HN3 : Hid (∀ q, (Value.slice A2 (ya2 false D).length c2).ownBlock = some q → w2.heap.size ≤ q) := hn3
  have HB3 : Hid (Below w2.heap.size w2 w3) := ((Below.refl w2.heap.size w2).drew).trans hb3
  have f3 := (H2.out.below HB3.out).gate.cells.2.2.2.2.2.1 3
  have y3 := (H2.out.below HB3.out).c3
  clear hp hs ho hn3 hb3
  go_wp2_with fail
  refine hK.out _ _ (by (try dsimp only); (first | exact HSS.out _ HB3.out | exact HSS.out _ (Below.refl _ _).drew)) (fun hHeld => ?_)
  clear hK K
  try simp only [Act.put, wsA, wsB, wsC]
  refine wtP 7 ?_
  try simp only [Act.put, wsA, wsB, wsC]
  refine wtP 8 ?_
  try simp only [Act.put, wsA, wsB, wsC]
  refine wtD 9 fun K hK => ?_
  go_simp
  refine hK.out _ _ ?_
  clear hK K
  try simp only [Act.put, wsA, wsB, wsC]
  refine ya8 (by kernel_rfl) ?_ _
  go_upto_region 7 with fail
  have hown := ysw H2.out.ol HFT.out.1 HFT.out.2 HP.out HSO.out
  have H4 := Lib.hid (H2.out.setOwned (w1 := w3) hown.1 hown.2 (Touch.ofBelow HB3.out) HO3.out HN3.out)
  have hg := H2.out.gate.cells.2.2.2.2.2.2.2
  have HT4 : Hid (Touch [g] w2 (w3.setCell ⟨g, 3, none⟩ (.slice A2 (ya2 false D).length c2))) := (Touch.ofBelow HB3.out).set (.inl (by simp)) _
  have HX4 := Lib.hid ((HX2.out.below HB3.out).other 3 (.slice A2 (ya2 false D).length c2) (k := g) (by have := HH.out.lt; have := HB5.out; omega))
  clear hown f3 y3
  obtain ⟨w4, hw4⟩ : ∃ w4, w3.setCell ⟨g, 3, none⟩ (.slice A2 (ya2 false D).length c2) = w4 := ⟨_, rfl⟩
  rw [hw4] at H4 HT4 HX4
  try rw [hw4]
  clear hw4
  obtain ⟨l2, hl2⟩ : ∃ l2, ya2 false D = l2 := ⟨_, rfl⟩
  rw [hl2] at H4 HN3
  clear hl2
  have HOUT : Hid (∀ w', Below w4.heap.size w4 w' → Calls Tryz.prog 129 #[.pointer (some ⟨sp, 0, none⟩), .agg (a2 f t)] w' (ypd w' sp s.most Fs (arcL s.its f t) (ych s.its (arcL s.its f t)))) := fun w' tt => yye (H4.out.below tt).shelf f t HFT.out.1 HFT.out.2
  have HSS7 : Hid (∀ w', Below w4.heap.size w4 w' → w'.cell? ⟨g, 4, none⟩ = some (.pointer (some ⟨sp, 0, none⟩)) ∧ w'.cell? ⟨b5, 0, none⟩ = some (.int .u64 (f : Nat)) ∧ w'.cell? ⟨b5, 1, none⟩ = some (.int .u64 (t : Nat))) := fun w' tt => ⟨(H4.out.below tt).c4, (HX4.out.below tt).two.1, (HX4.out.below tt).two.2.1⟩
  refine ybe (fun w' => w'.cell? ⟨g, 4, none⟩ = some (.pointer (some ⟨sp, 0, none⟩)) ∧ w'.cell? ⟨b5, 0, none⟩ = some (.int .u64 (f : Nat)) ∧ w'.cell? ⟨b5, 1, none⟩ = some (.int .u64 (t : Nat))) 5 (by kernel_rfl) ?_ (fun hHeld => ?_)
  ·(try dsimp only); exact HSS7.out _ (Below.refl _ _).drew
  refine wtP 0 ?_
  try simp only [Act.put, wsA, wsB, wsC]
  refine wtP 1 ?_
  try simp only [Act.put, wsA, wsB, wsC]
  refine wtP 2 ?_
  try simp only [Act.put, wsA, wsB, wsC]
  refine wtT 3 ?_
  try simp only [Act.put, wsA, wsB, wsC]
  refine wtT 4 ?_
  try simp only [Act.put, wsA, wsB, wsC]
  refine wtD 5 fun K hK => ?_
  go_simp
  (first | (go_at_call 129; (with_reducible refine (HOUT.out _ (Below.refl w4.heap.size w4).drew).mono ?_); rintro e w5 ⟨A5, c5, Fs', rfl, ho, hsh, ht5, hn5, -⟩))
  have HSH := Lib.hid hsh
  have HT5 : Hid (Touch Fs w4 w5) := ((Touch.refl _ _).drew).trans ht5 (fun q hq => .inl hq)
  have HN5 : Hid (∀ q ∈ Fs', q ∈ Fs ∨ w4.heap.size ≤ q) := hn5
  clear ho hsh ht5 hn5
  go_wp2_with fail
  refine hK.out _ _ ?_
  clear hK K
  try simp only [Act.put, wsA, wsB, wsC]
  refine ya8 (by kernel_rfl) ?_ _
  go_upto_region 8 with fail
  have hris := yb2.rising H4.out.shelf
  have hdel : ych s.its (arcL s.its f t) = yjh s.its f t := yyb hris f t
  have hsh5 := HSH.out
  rw [hdel] at hsh5
  have H5 := Lib.hid (H4.out.setShelf hsh5 HT5.out HN5.out (fun x hx => H4.out.right x (List.mem_filter.1 hx).1))
  have hb5n : b5 ∉ Fs := fun z => by have := HH.out.shelf.ltF b5 z; have := HB5.out; omega
  have HX5 := Lib.hid (HX4.out.touch HT5.out hb5n)
  clear hris hdel hsh5 hb5n
  have HPT : Hid (∀ w', Below w5.heap.size w5 w' → Calls Tryz.prog 130 #[.pointer (some ⟨g, 5, none⟩), .agg (a2 f t), .int .i64 n] w' fun e w'' => ∃ F1, e = .returned (.tuple #[]) ∧ Gi.VG w'' g (hcOf s (.slice A2 l2.length c2) sp) (s.g.point f t n) F1 ∧ Touch Fg w' w'' ∧ ∀ q ∈ F1, q ∈ Fg ∨ w'.heap.size ≤ q) := fun w' tt => Gi.gatePoint_any f t n HFT.out.1 HFT.out.2 HL.out (H5.out.below tt).gate
  have HSS8 : Hid (∀ w', Below w5.heap.size w5 w' → w'.cell? ⟨b5, 0, none⟩ = some (.int .u64 (f : Nat)) ∧ w'.cell? ⟨b5, 1, none⟩ = some (.int .u64 (t : Nat))) := fun w' tt => ⟨(HX5.out.below tt).two.1, (HX5.out.below tt).two.2.1⟩
  refine ybe (fun w' => w'.cell? ⟨b5, 0, none⟩ = some (.int .u64 (f : Nat)) ∧ w'.cell? ⟨b5, 1, none⟩ = some (.int .u64 (t : Nat))) 5 (by kernel_rfl) ?_ (fun hHeld => ?_)
  ·(try dsimp only); exact HSS8.out _ (Below.refl _ _).drew
  refine wtP 0 ?_
  try simp only [Act.put, wsA, wsB, wsC]
  refine wtP 1 ?_
  try simp only [Act.put, wsA, wsB, wsC]
  refine wtP 2 ?_
  try simp only [Act.put, wsA, wsB, wsC]
  refine wtP 4 ?_
  try simp only [Act.put, wsA, wsB, wsC]
  refine wtT 3 ?_
  try simp only [Act.put, wsA, wsB, wsC]
  refine wtD 5 fun K hK => ?_
  go_simp
  (first | (go_at_call 130; (with_reducible refine (HPT.out _ (Below.refl w5.heap.size w5).drew).mono ?_); rintro e w6 ⟨Fg', rfl, hg6, ht6, hn6⟩))
  have HT6 : Hid (Touch Fg w5 w6) := ((Touch.refl _ _).drew).trans ht6 (fun q hq => .inl hq)
  have HN6 : Hid (∀ q ∈ Fg', q ∈ Fg ∨ w5.heap.size ≤ q) := hn6
  have H6 := Lib.hid (H5.out.setGate hg6 HT6.out HN6.out)
  clear hg6 ht6 hn6
  have CT := Lib.hid (Gi.gateThaw_any H6.out.gate)
  go_wp2_with fail
  refine hK.out _ _ ?_
  clear hK K
  try simp only [Act.put, wsA, wsB, wsC]
  refine ya8 (by kernel_rfl) ?_ _
  go_wp2_with (go_at_call 131; (with_reducible refine (CT.out).mono ?_); rintro e w7 ⟨Fg2, rfl, hg7, ht7, hn7⟩; have H7 := Lib.hid (H6.out.setGate hg7 ht7 hn7); have HT7 := Lib.hid ht7; have HN7 := Lib.hid hn7; clear hg7 ht7 hn7)
  go_ret
  have hpost : ybz VD w g (hF (.slice A l.length c) Fs Fg) (.int .i64 0) (s.lose n) (.returned (.int .i64 0)) w7 := by
   have z2 := HC2.out.size
   have z4 := HT4.out.size
   have z5 := HT5.out.size
   have z6 := HT6.out.size
   refine ⟨hF (.slice A2 l2.length c2) Fs' Fg2, rfl, ⟨l2, .slice A2 l2.length c2, sp, Fs', Fg2, ?_, rfl⟩, ?_, fun q hq => ?_⟩
   ·have e : s.lose n = ⟨s.nd, s.most, s.kept, fun x => if inB f t x = true then none else s.own x, yjh s.its f t, (s.g.point f t n).thaw, s.k + 1⟩ := by unfold HO.lose; rw [HF.out, HT.out]; rfl
    rw [e]
    exact H7.out
   ·have hg : g ∈ Fg := HH.out.gate.cells.2.2.2.2.2.2.2
    have t1 : Touch (hF (.slice A l.length c) Fs Fg) w w4 := (Touch.ofBelow HC2.out).trans HT4.out (fun q hq => .inl (yau.2 (.inr (.inr (by rw [List.mem_singleton.1 hq]; exact hg)))))
    have t2 : Touch (hF (.slice A l.length c) Fs Fg) w w5 := t1.trans HT5.out (fun q hq => .inl (yau.2 (.inr (.inl hq))))
    have t3 : Touch (hF (.slice A l.length c) Fs Fg) w w6 := t2.trans HT6.out (fun q hq => .inl (yau.2 (.inr (.inr hq))))
    refine t3.trans HT7.out (fun q hq => ?_)
    rcases HN6.out q hq with y | y
    ·exact .inl (yau.2 (.inr (.inr y)))
    ·exact .inr (by omega)
   ·rcases yau.1 hq with y | y | y
    ·have := HN3.out q y
     exact .inr (by omega)
    ·rcases HN5.out q y with x | x
     ·exact .inl (yau.2 (.inr (.inl x)))
     ·exact .inr (by omega)
    ·rcases HN7.out q y with x | x
     ·rcases HN6.out q x with u | u
      ·exact .inl (yau.2 (.inr (.inr u)))
      ·exact .inr (by omega)
     ·exact .inr (by omega)
  first
   | exact .inl ⟨rfl, hpost⟩
   | exact hpost
namespace Hd
theorem yku (s : ByteArray) : yac s = valN 8 s.toList := by rw [yac, yhc, Lib.toList_data]
theorem less_at {x : ByteArray} {p : Nat} (hp : p < 18446744073709551616) : yad x (txt (yaz p)) = decide (yac x < p) := by
 have e : (256 : Nat) ^ 8 = 18446744073709551616 := by decide
 have fl : (txt (yaz p)).toList = yaz p := yi9 _
 unfold yad
 rw [fl]
 by_cases h : yac x < p
 ·rw [decide_eq_true h]
  exact yi4 8 _ _ (by rw [yd1 (by rw [e]; exact hp), ← yku]; exact h)
 ·rw [decide_eq_false h]
  exact yhe 8 _ _ (yi7 p) (yi8 p) (by rw [yd1 (by rw [e]; exact hp), ← yku]; omega)
theorem addr_at {p : Nat} (hp : p < 18446744073709551616) : yac (txt (yaz p)) = p := by
 have e : (256 : Nat) ^ 8 = 18446744073709551616 := by decide
 rw [yku, yi9, yd1 (by rw [e]; exact hp)]
theorem less_below {a b f : ByteArray} (h : yad a f = true) (k : yad b f = false) : yad a b = true := by
 by_cases e : a = b
 ·rw [e, k] at h; cases h
 ·rcases yjc e with z | z
  ·exact z
  ·rw [ydr z h] at k; cases k
section
variable {l got : List Item} {fr at_ tt : ByteArray} {stop : Nat}
end
def Os (f t : Nat) (its : List Item) : HO := ⟨1, 200, 0, fun x => if inB f t x = true then some 1 else none, its, G0, 1⟩
end Hd
end Go.Proofs.YtnjodhglbapnlaaGreat
