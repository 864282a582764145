/-
  The code's hold in memory (VD): what it owns as a row, its shelf, its gate; what stays when one of them is written.
  The code's hold: New, Epoch, Arcs, Pieces, Thaw, Tick, Keep, Release.
-/
import Derived.Test.YthgndgoljchnfaaGreatHg09
import Derived.Test.YthgndgoljchnfaaGreatHg11
import Derived.Test.YthgndgoljchnfaaGreatHg12
import Derived.Test.YthgndgoljchnfaaGreatHg28
namespace Go.Proofs.YthgndgoljchnfaaGreat
open Go.RowKit

/-! a gate inside a hold, when the hold's other cells are written -/
theorem Gi.GM.head2 {w : World} {g : Nat} {H : Gi.HC} {s : GS} {x : Gi.GRow} {R : List Gi.GRow} (h : Gi.GM w g H s x R) (i : Nat) (u : Value) (H' : Gi.HC) (he : (Gi.hC H s (x :: R)).toArray.setIfInBounds i u = (Gi.hC H' s (x :: R)).toArray) : Gi.GM (w.setCell ⟨g, i, none⟩ u) g H' s x R := by
  have t : Touch [g] w (w.setCell ⟨g, i, none⟩ u) := (Touch.refl _ _).set (.inl (by simp)) _
  exact ⟨h.hl, h.l, h.few, by rw [Gi.gm_set h.hg, he], fun y hy => t.row (h.rows y hy) fun q hq z => h.gn y hy (by rw [hq, List.mem_singleton.1 z]), h.own, h.gn, h.b, h.pts⟩
theorem Gi.VG.kept {w : World} {g : Nat} {H : Gi.HC} {s : GS} {F : List Nat} (h : Gi.VG w g H s F) (u : Value) : Gi.VG (w.setCell ⟨g, 2, none⟩ u) g ⟨H.a, H.b, u, H.d, H.e⟩ s F := by
  obtain ⟨x, R, k, rfl⟩ := h
  exact ⟨x, R, k.head2 2 u ⟨H.a, H.b, u, H.d, H.e⟩ (by simp [Gi.hC]), rfl⟩
theorem Gi.VG.owned {w : World} {g : Nat} {H : Gi.HC} {s : GS} {F : List Nat} (h : Gi.VG w g H s F) (u : Value) : Gi.VG (w.setCell ⟨g, 3, none⟩ u) g ⟨H.a, H.b, H.c, u, H.e⟩ s F := by
  obtain ⟨x, R, k, rfl⟩ := h
  exact ⟨x, R, k.head2 3 u ⟨H.a, H.b, H.c, u, H.e⟩ (by simp [Gi.hC]), rfl⟩
theorem Gi.VG.cells {w : World} {g : Nat} {H : Gi.HC} {s : GS} {F : List Nat} (h : Gi.VG w g H s F) : w.cell? ⟨g, 0, none⟩ = some H.a ∧ w.cell? ⟨g, 1, none⟩ = some H.b ∧ w.cell? ⟨g, 2, none⟩ = some H.c ∧ w.cell? ⟨g, 3, none⟩ = some H.d ∧ w.cell? ⟨g, 4, none⟩ = some H.e ∧ (∀ i, w.frozen? ⟨g, i, none⟩ = false) ∧ g < w.heap.size ∧ g ∈ F := by
  obtain ⟨x, R, k, rfl⟩ := h
  exact ⟨Gi.gm_cell k.hg rfl, Gi.gm_cell k.hg rfl, Gi.gm_cell k.hg rfl, Gi.gm_cell k.hg rfl, Gi.gm_cell k.hg rfl, k.free, k.lt, Gi.mem_gF.2 (.inl rfl)⟩

abbrev hcOf (s : HO) (S : Value) (sp : Nat) : Gi.HC := ⟨.int .i64 s.nd, .int .i64 s.most, .int .i64 (s.kept : Nat), S, .pointer (some ⟨sp, 0, none⟩)⟩
structure HM (w : World) (g : Nat) (s : HO) (l : List AO) (S : Value) (sp : Nat) (Fs Fg : List Nat) : Prop where
  gate : Gi.VG w g (hcOf s S sp) s.g Fg
  row : OwRow w S l.length s.nd l
  shelf : SH w sp s.most s.its Fs
  ol : OwnL l s.own
  few : l.length ≤ 2 * s.k
  wide : Wide s.nd
  right : ∀ x ∈ s.its, rightN x.1 = 0 ∧ valueN x.2 = 0
  kept : s.kept ≤ 200
  d1 : ∀ q ∈ Fs, q ∉ Fg
  d2 : ∀ q, S.ownBlock = some q → q ∉ Fs ∧ q ∉ Fg
abbrev hF (S : Value) (Fs Fg : List Nat) : List Nat := S.ownBlock.toList ++ (Fs ++ Fg)
/-- the hold at block g -/
def VD (w : World) (g : Nat) (s : HO) (F : List Nat) : Prop := ∃ l S sp Fs Fg, HM w g s l S sp Fs Fg ∧ F = hF S Fs Fg
theorem mem_hF {S : Value} {Fs Fg : List Nat} {q : Nat} : q ∈ hF S Fs Fg ↔ S.ownBlock = some q ∨ q ∈ Fs ∨ q ∈ Fg := by
  simp [hF]
section
variable {w w1 : World} {g sp : Nat} {s : HO} {l : List AO} {S : Value} {Fs Fg : List Nat}
theorem HM.all_lt (h : HM w g s l S sp Fs Fg) : ∀ q ∈ hF S Fs Fg, q < w.heap.size := by
  intro q hq
  rcases mem_hF.1 hq with z | z | z
  · exact h.row.lt q z
  · exact h.shelf.ltF q z
  · exact (Gi.vg_has h.gate).2 q z
theorem HM.touch {G : List Nat} (h : HM w g s l S sp Fs Fg) (t : Touch G w w1) (hn : ∀ q ∈ hF S Fs Fg, q ∉ G) : HM w1 g s l S sp Fs Fg :=
  { h with
    gate := Gi.vg_touch h.gate t fun q hq => hn q (mem_hF.2 (.inr (.inr hq)))
    row := h.row.touch t fun q hq => hn q (mem_hF.2 (.inl hq))
    shelf := h.shelf.touch t fun q hq => hn q (mem_hF.2 (.inr (.inl hq))) }
theorem HM.below (h : HM w g s l S sp Fs Fg) (t : Below w.heap.size w w1) : HM w1 g s l S sp Fs Fg := h.touch (Touch.ofBelow (F := []) t) (by simp)
theorem HM.c4 (h : HM w g s l S sp Fs Fg) : w.cell? ⟨g, 4, none⟩ = some (.pointer (some ⟨sp, 0, none⟩)) := h.gate.cells.2.2.2.2.1
theorem HM.c3 (h : HM w g s l S sp Fs Fg) : w.cell? ⟨g, 3, none⟩ = some S := h.gate.cells.2.2.2.1
theorem HM.lt (h : HM w g s l S sp Fs Fg) : g < w.heap.size := h.gate.cells.2.2.2.2.2.2.1
theorem HM.its200 (h : HM w g s l S sp Fs Fg) : (s.its.length : Int) ≤ s.most ∧ s.most ≤ 200 := by
  obtain ⟨_, _, _, _, _, _, _, _, _, a, b⟩ := h.shelf
  exact ⟨a, b⟩
/-- what a call that writes nothing leaves -/
theorem HM.same (h : HM w g s l S sp Fs Fg) (b : Below w.heap.size w w1) (v : Value) : HdPost VD w g (hF S Fs Fg) v s (.returned v) w1 :=
  ⟨_, rfl, ⟨l, S, sp, Fs, Fg, h.below b, rfl⟩, Touch.ofBelow b, fun _ hq => .inl hq⟩
/-- the gate was written -/
theorem HM.setGate (h : HM w g s l S sp Fs Fg) {gs : GS} {Fg' : List Nat} (hv : Gi.VG w1 g (hcOf s S sp) gs Fg') (t : Touch Fg w w1) (hn : ∀ q ∈ Fg', q ∈ Fg ∨ w.heap.size ≤ q) : HM w1 g ⟨s.nd, s.most, s.kept, s.own, s.its, gs, s.k⟩ l S sp Fs Fg' :=
  { h with
    gate := hv
    row := h.row.touch t fun q hq => (h.d2 q hq).2
    shelf := h.shelf.touch t h.d1
    d1 := fun q hq z => by
      rcases hn q z with y | y
      · exact h.d1 q hq y
      · have := h.shelf.ltF q hq; omega
    d2 := fun q hq => ⟨(h.d2 q hq).1, fun z => by
      rcases hn q z with y | y
      · exact (h.d2 q hq).2 y
      · have := h.row.lt q hq; omega⟩ }
/-- the shelf was written -/
theorem HM.setShelf (h : HM w g s l S sp Fs Fg) {its : List Item} {Fs' : List Nat} (hv : SH w1 sp s.most its Fs') (t : Touch Fs w w1) (hn : ∀ q ∈ Fs', q ∈ Fs ∨ w.heap.size ≤ q) (hr : ∀ x ∈ its, rightN x.1 = 0 ∧ valueN x.2 = 0) : HM w1 g ⟨s.nd, s.most, s.kept, s.own, its, s.g, s.k⟩ l S sp Fs' Fg :=
  { h with
    gate := Gi.vg_touch h.gate t fun q hq z => h.d1 q z hq
    row := h.row.touch t fun q hq => (h.d2 q hq).1
    shelf := hv
    right := hr
    d1 := fun q hq z => by
      rcases hn q hq with y | y
      · exact h.d1 q y z
      · have := (Gi.vg_has h.gate).2 q z; omega
    d2 := fun q hq => ⟨fun z => by
      rcases hn q z with y | y
      · exact (h.d2 q hq).1 y
      · have := h.row.lt q hq; omega, (h.d2 q hq).2⟩ }
/-- the cell of what is kept was written -/
theorem HM.setKept (h : HM w g s l S sp Fs Fg) (k : Nat) (hk : k ≤ 200) : HM (w.setCell ⟨g, 2, none⟩ (.int .i64 (k : Nat))) g ⟨s.nd, s.most, k, s.own, s.its, s.g, s.k⟩ l S sp Fs Fg :=
  have t : Touch [g] w (w.setCell ⟨g, 2, none⟩ (.int .i64 (k : Nat))) := (Touch.refl _ _).set (.inl (by simp)) _
  have hg := h.gate.cells.2.2.2.2.2.2.2
  { h with
    gate := h.gate.kept _
    row := h.row.touch t fun q hq z => (h.d2 q hq).2 (by rw [List.mem_singleton.1 z]; exact hg)
    shelf := h.shelf.touch t fun q hq z => h.d1 q hq (by rw [List.mem_singleton.1 z]; exact hg)
    kept := hk }
/-- what is owned was written: another row -/
theorem HM.setOwned (h : HM w g s l S sp Fs Fg) {l2 : List AO} {S2 : Value} {own : Nat → Option Int} (ho : OwnL l2 own) (hf : l2.length ≤ l.length + 2) (t : Touch S.ownBlock.toList w w1) (hr : OwRow w1 S2 l2.length s.nd l2) (hs : ∀ q, S2.ownBlock = some q → w.heap.size ≤ q) : HM (w1.setCell ⟨g, 3, none⟩ S2) g ⟨s.nd, s.most, s.kept, own, s.its, s.g, s.k + 1⟩ l2 S2 sp Fs Fg := by
  have hg := h.gate.cells.2.2.2.2.2.2.2
  have h1 : Gi.VG w1 g (hcOf s S sp) s.g Fg := Gi.vg_touch h.gate t fun q hq z => (h.d2 q (Option.mem_toList.1 z)).2 hq
  have hlt := h.lt
  have t2 : Touch [g] w1 (w1.setCell ⟨g, 3, none⟩ S2) := (Touch.refl _ _).set (.inl (by simp)) _
  refine ⟨h1.owned S2, hr.touch t2 (fun q hq z => ?_), (h.shelf.touch t (fun q hq z => (h.d2 q (Option.mem_toList.1 z)).1 hq)).touch t2 (fun q hq z => h.d1 q hq (by rw [List.mem_singleton.1 z]; exact hg)), ho, by have := h.few; simp only; omega, h.wide, h.right, h.kept, h.d1, fun q hq => ⟨fun z => ?_, fun z => ?_⟩⟩
  · have := hs q hq
    have := List.mem_singleton.1 z
    omega
  · have := hs q hq
    have := h.shelf.ltF q z
    omega
  · have := hs q hq
    have := (Gi.vg_has h.gate).2 q z
    omega
end
theorem vd_has {w : World} {g : Nat} {s : HO} {F : List Nat} (h : VD w g s F) : g ∈ F ∧ ∀ q ∈ F, q < w.heap.size := by
  obtain ⟨l, S, sp, Fs, Fg, h, rfl⟩ := h
  exact ⟨mem_hF.2 (.inr (.inr h.gate.cells.2.2.2.2.2.2.2)), h.all_lt⟩
theorem vd_rising {w : World} {g : Nat} {s : HO} {F : List Nat} (h : VD w g s F) : Rising s.its ∧ ∀ x ∈ s.its, rightN x.1 = 0 ∧ valueN x.2 = 0 := by
  obtain ⟨l, S, sp, Fs, Fg, h, rfl⟩ := h
  exact ⟨shelfLaws.rising h.shelf, h.right⟩
theorem vd_touch {w w' : World} {g : Nat} {s : HO} {F G : List Nat} (h : VD w g s F) (t : Touch G w w') (hn : ∀ q ∈ F, q ∉ G) : VD w' g s F := by
  obtain ⟨l, S, sp, Fs, Fg, h, rfl⟩ := h
  exact ⟨l, S, sp, Fs, Fg, h.touch t hn, rfl⟩
set_option maxHeartbeats 1000000 in
theorem none_any (g sp : Nat) (W : World) (h : W.cell? ⟨g, 4, none⟩ = some (.pointer (some ⟨sp, 0, none⟩))) : Calls Tryz.prog 33 #[.pointer (some ⟨g, 0, none⟩)] W fun e w' => e = .returned (.bool false) ∧ W = w' := by
  go_enter Tryz.func33, Tryz.ntmps33
  go_wp2
  go_ret
  exact ⟨rfl, rfl⟩
set_option maxHeartbeats 1000000 in
theorem hdLen_any {w : World} {g : Nat} {s : HO} {F : List Nat} (h : VD w g s F) : Calls Tryz.prog 18 #[.pointer (some ⟨g, 0, none⟩)] w fun e w' => e = .returned (.int .i64 (s.its.length : Nat)) ∧ Below w.heap.size w w' := by
  obtain ⟨l, S, sp, Fs, Fg, h, rfl⟩ := h
  have C0 := Lib.hid (none_any g sp w h.c4)
  have C1 := Lib.hid (shelfLaws.len h.shelf)
  have c4 := h.c4
  clear h
  go_enter Tryz.func18, Tryz.ntmps18
  go_wp2_with (first
    | (go_at_call 33; (with_reducible refine (C0.out).mono ?_); rintro e w1 ⟨rfl, rfl⟩)
    | (go_at_call 50; (with_reducible refine (C1.out).mono ?_); rintro e w2 ⟨rfl, hb2⟩; have HB2 := Lib.hid hb2; clear hb2))
  go_ret
  exact ⟨rfl, HB2.out⟩
set_option maxHeartbeats 1000000 in
theorem hdItems_any {w : World} {g : Nat} {s : HO} {F : List Nat} (h : VD w g s F) : Calls Tryz.prog 15 #[.pointer (some ⟨g, 0, none⟩)] w fun e w' => ∃ S, e = .returned S ∧ w'.ownsRow w.heap.size 31 2 S s.its.length (itemCells s.its) ∧ Below w.heap.size w w' := by
  obtain ⟨l, S, sp, Fs, Fg, h, rfl⟩ := h
  have C0 := Lib.hid (none_any g sp w h.c4)
  have C1 := Lib.hid (shelfLaws.items h.shelf)
  have c4 := h.c4
  clear h
  go_enter Tryz.func15, Tryz.ntmps15
  go_wp2_with (first
    | (go_at_call 33; (with_reducible refine (C0.out).mono ?_); rintro e w1 ⟨rfl, rfl⟩)
    | (go_at_call 45; (with_reducible refine (C1.out).mono ?_); rintro e w2 ⟨A, c, rfl, ha, hb2⟩; have HB2 := Lib.hid hb2; have HA := Lib.hid ha; clear hb2 ha))
  go_ret
  exact ⟨_, rfl, HA.out, HB2.out⟩
theorem own_any_has {l : List AO} {own : Nat → Option Int} (h : OwnL l own) {x : Nat} (hx : x < 18446744073709551616) : l.any (hasPt x) = (own x).isSome := by
  cases ho : own x with
  | none =>
    refine List.any_eq_false.2 fun o ho' => ?_
    have := (own_none h.ow hx).1 ho o ho'
    simpa [hasPt] using this
  | some e =>
    obtain ⟨o, h1, h2, _⟩ := (h.ow x hx e).1 ho
    exact List.any_eq_true.2 ⟨o, h1, h2⟩
set_option maxHeartbeats 1000000 in
theorem hdHas_any {w : World} {g : Nat} {s : HO} {F : List Nat} (x : Nat) (hx : x < 18446744073709551616) (hk : s.k ≤ 1000) (h : VD w g s F) : Calls Tryz.prog 27 #[.pointer (some ⟨g, 0, none⟩), .int .u64 (x : Nat)] w fun e w' => e = .returned (.bool (s.own x).isSome) ∧ Below w.heap.size w w' := by
  obtain ⟨l, S, sp, Fs, Fg, h, rfl⟩ := h
  have B0 : Below w.heap.size w (w.alloc (.cells #[.int .u64 (x : Nat)] 23)) := (Below.refl _ _).alloc (Nat.le_refl _) _
  have h1 := h.below B0
  have C0 := Lib.hid (none_any g sp _ h1.c4)
  obtain ⟨A, c, rfl, _, _⟩ := h1.row.shape
  have cb : (w.alloc (.cells #[.int .u64 (x : Nat)] 23)).cell? ⟨w.heap.size, 0, none⟩ = some (.int .u64 (x : Nat)) := bx_cell (heap_alloc_new w _) rfl
  have C1 := Lib.hid (someHas_any l s.nd (hasPt x) w.heap.size A c l.length _ (by have := h1.few; omega) h1.row (fun w' o hb ho => hasC_any o s.nd x w.heap.size w' (h1.ol.arcs.lt o ho) hx ((hb.cell (p := ⟨w.heap.size, 0, none⟩) (by simp)).trans cb)))
  rw [own_any_has h1.ol hx] at C1
  have c3 := h.c3
  have lg := h.lt
  clear h h1 cb
  go_enter Tryz.func27, Tryz.ntmps27
  go_wp2_with (first
    | (go_at_call 33; (with_reducible refine (C0.out).mono ?_); rintro e w1 ⟨rfl, rfl⟩)
    | (go_at_call 60; (with_reducible refine (C1.out).mono ?_); rintro e w2 ⟨rfl, hb2⟩; have HB2 := Lib.hid (acc B0 hb2); clear hb2))
  go_ret
  exact ⟨rfl, HB2.out⟩
end Go.Proofs.YthgndgoljchnfaaGreat
namespace Go.Proofs.YthgndgoljchnfaaGreat
open Go.RowKit

theorem infoOwz : ∃ i, Tryz.prog.info? 60 = some i ∧ i.zero = some (.agg #[.int .u64 0, .int .u64 0, .int .i64 0, .int .i64 0]) ∧ i.size = 4 ∧ i.bytes = 32 := by
  have h : (Tryz.prog.info? 60).map (fun i => (i.zero, i.size, i.bytes)) = some (some (.agg #[.int .u64 0, .int .u64 0, .int .i64 0, .int .i64 0]), 4, 32) := by kernel_rfl
  obtain ⟨i, hi, hx⟩ := Option.map_eq_some_iff.1 h
  simp only [Prod.mk.injEq] at hx
  exact ⟨i, hi, hx⟩
set_option maxRecDepth 100000 in
set_option maxHeartbeats 2000000 in
theorem cloneOw_any (g o k d : Nat) (news : List Value) (W : World) (hl : news.length = k * 4) (hk : k ≤ 100000) (hnews : ∀ j u, news[j]? = some u → W.cell? ((⟨g, o, none⟩ : Addr).add j) = some u) (h1 : ∀ u ∈ news, u.oneCell' = true) :
    Calls Tryz.prog 62 #[.slice (some ⟨g, o, none⟩) k d] W fun e w' => ∃ v', e = .returned v' ∧ w'.ownsRow W.heap.size 60 4 v' k news ∧ Below W.heap.size W w' := by
  obtain ⟨i0, hi0, hz0, hs0, hb0⟩ := infoOwz
  have HS : ∀ ob : Obj, Hid (∀ j u, news[j]? = some u → (W.alloc ob).cell? ((⟨g, o, none⟩ : Addr).add j) = some u) := fun ob j u hj => Lib.cell?_alloc_some _ (hnews j u hj)
  have HO := fun cs => Lib.hid (World.ownsRow_made (base := W.heap.size) (e := 60) (size := 4) W cs 0 (Nat.le_refl _) (Nat.zero_le _))
  have HL := Lib.hid hl
  have hq := Lib.run_eql_slice_nil (P := Tryz.prog) W 57 60 (some ⟨g, o, none⟩) k d 0 0 Tryz.underlying57
  clear hnews hl
  go_enter Tryz.func62, Tryz.ntmps62
  go_wp2_with (at_builtin; go_must (refine wpList_append_own _ rfl (.tmp 5) (.tmp 6) 57 rfl W.heap.size 60 i0 (.agg #[.int .u64 0, .int .u64 0, .int .i64 0, .int .i64 0]) 4 32 Tryz.underlying57 hi0 hz0 hs0 hb0 rfl (by decide) (.slice (some ⟨W.heap.size, 0, none⟩) 0 0) 0 [] rfl ((HO _).out (by rfl)) ⟨g, o, none⟩ k d news rfl HL.out (HS _).out h1 (by unfold maxLen; omega) (by omega) (by simp) ?_); intro v' w1 hown1 hg1 hnil; have HO1 := Lib.hid hown1; have HG := Lib.hid hg1; clear hown1 hg1 hnil)
  go_ret
  exact ⟨_, rfl, by simpa using HO1.out, ((Below.refl _ _).alloc (Nat.le_refl _) _).grown HG.out (by simp) (fun q hq => by have h9 : W.heap.size = q := Option.some.inj hq; omega)⟩
theorem max_facts (a b : Int) : a ≤ max a b ∧ b ≤ max a b ∧ (b ≤ a → max a b = a) ∧ (¬ b ≤ a → max a b = b) := by omega
theorem cloneNil_any (c : Nat) (W : World) : Calls Tryz.prog 62 #[.slice none 0 c] W fun e w' => e = .returned (.slice none 0 0) ∧ w' = W := by
  have hq := Lib.run_eql_slice_nil (P := Tryz.prog) W 57 60 none 0 c 0 0 Tryz.underlying57
  go_enter Tryz.func62, Tryz.ntmps62
  go_wp2
  go_ret
  exact ⟨rfl, rfl⟩
/-- a copy of what is owned -/
theorem cloneOwned_any (l : List AO) (nd : Int) (A : Option Addr) (c n : Nat) (W : World) (h : OwRow W (.slice A n c) n nd l) (hn : n ≤ 100000) : Calls Tryz.prog 62 #[.slice A n c] W fun e w' => ∃ A' c', e = .returned (.slice A' n c') ∧ NwRow w' W.heap.size (.slice A' n c') n nd l ∧ Below W.heap.size W w' := by
  rcases h.2 with ⟨h0, h1⟩ | ⟨q, o, c', cur, h0, _⟩
  · injection h0 with e1 e2 e3
    subst e1 e2
    refine (cloneNil_any c W).mono ?_
    rintro e w' ⟨rfl, rfl⟩
    have : l = [] := List.length_eq_zero_iff.1 (ow_len h)
    subst this
    exact ⟨none, 0, rfl, World.ownsRow_nil _ _ _ _, Below.refl _ _⟩
  · injection h0 with e1 e2 e3
    subst e1
    refine (cloneOw_any q o n c _ W h.1 hn (fun j u hj => by rw [Go.WideShapes.add_plain]; exact h.cells j u hj) (oC_one _ _)).mono ?_
    rintro e w' ⟨v', rfl, h1, h2⟩
    obtain ⟨A', c', rfl⟩ := own_slice h1
    exact ⟨A', c', rfl, h1, h2⟩
set_option maxHeartbeats 1000000 in
theorem hdArcs_any {w : World} {g : Nat} {s : HO} {F : List Nat} (hk : s.k ≤ 1000) (h : VD w g s F) : Calls Tryz.prog 29 #[.pointer (some ⟨g, 0, none⟩)] w fun e w' => ∃ (l : List AO) (A : Option Addr) (c : Nat), e = .returned (.slice A l.length c) ∧ w'.ownsRow w.heap.size 60 4 (.slice A l.length c) l.length (ownedC l s.nd) ∧
    Arcs l ∧ (∀ x, x < 18446744073709551616 → kn l x = (s.own x).map fun e => (0, e)) ∧ Below w.heap.size w w' := by
  obtain ⟨l, S, sp, Fs, Fg, h, rfl⟩ := h
  have C0 := Lib.hid (none_any g sp w h.c4)
  obtain ⟨A, c, rfl, _, _⟩ := h.row.shape
  have C1 := Lib.hid (cloneOwned_any l s.nd A c l.length w h.row (by have := h.few; omega))
  have c3 := h.c3
  have HO := Lib.hid h.ol
  clear h hk
  go_enter Tryz.func29, Tryz.ntmps29
  go_wp2_with (first
    | (go_at_call 33; (with_reducible refine (C0.out).mono ?_); rintro e w1 ⟨rfl, rfl⟩)
    | (go_at_call 62; (with_reducible refine (C1.out).mono ?_); rintro e w2 ⟨A', c', rfl, ho, hb2⟩; have HB2 := Lib.hid hb2; have HR2 := Lib.hid ho; clear hb2 ho))
  go_ret
  exact ⟨l, A', c', rfl, HR2.out, HO.out.arcs, fun x hx => HO.out.kn hx, HB2.out⟩
set_option maxHeartbeats 1000000 in
theorem hdPieces_any {w : World} {g : Nat} {s : HO} {F : List Nat} (hk : s.k ≤ 1000) (h : VD w g s F) : Calls Tryz.prog 28 #[.pointer (some ⟨g, 0, none⟩)] w fun e w' => ∃ (l m : List AO) (A : Option Addr) (c : Nat), e = .returned (.slice A l.length c) ∧ PcRow w' w.heap.size (.slice A l.length c) l.length (ownedC l s.nd) ∧
    Arcs m ∧ (∀ x, x < 18446744073709551616 → kn m x = (s.own x).map fun _ => (0, 0)) ∧ m.length = l.length ∧ (∀ (i : Nat) (p q : AO), l[i]? = some p → m[i]? = some q → p.f = q.f ∧ p.t = q.t ∧ Greatest s.own (fun x => inB p.f p.t x = true) p.e) ∧ Below w.heap.size w w' := by
  obtain ⟨l, S, sp, Fs, Fg, h, rfl⟩ := h
  have C0 := Lib.hid (none_any g sp w h.c4)
  obtain ⟨A, c, rfl, _, _⟩ := h.row.shape
  have C1 := Lib.hid (cloneOwned_any l s.nd A c l.length w h.row (by have := h.few; omega))
  have C2 : Hid (∀ (W : World) (A : Option Addr) (c : Nat), OwRow W (.slice A l.length c) l.length s.nd l → Calls Tryz.prog 35 #[.slice A l.length c, .func (.func 63) #[] #[]] W (JoinedPost true W A l.length c s.nd l)) := fun W A c hr => joinedWide_any l s.nd A c _ W hr (by have := h.few; omega) h.ol.arcs.lt
  have c3 := h.c3
  have HO := Lib.hid h.ol
  clear h hk
  go_enter Tryz.func28, Tryz.ntmps28
  go_wp2_with (first
    | (go_at_call 33; (with_reducible refine (C0.out).mono ?_); rintro e w1 ⟨rfl, rfl⟩)
    | (go_at_call 35; (with_reducible refine (C2.out _ _ _ (ownAt_of_row HR2.out)).mono ?_); rintro e w3 ⟨D, S, hp, hs, rfl, ho, hn, ht⟩; have HP := Lib.hid hp; have HS := Lib.hid hs; have HR3 := Lib.hid ho; have HN := Lib.hid hn; have HT := Lib.hid ht; clear hp hs ho hn ht)
    | (go_at_call 62; (with_reducible refine (C1.out).mono ?_); rintro e w2 ⟨A', c', rfl, ho, hb2⟩; have HB2 := Lib.hid hb2; have HR2 := Lib.hid ho; clear hb2 ho))
  go_ret
  have hm : ∀ p, p ∈ D ↔ p ∈ l := fun p => HP.out.mem_iff
  have hln := ln_sorted (fun o ho => HO.out.arcs.lt o ((hm o).1 ho)) HS.out (apart_perm HP.out HO.out.arcs.apart)
  obtain ⟨k1, k2, k3, k4⟩ := joinJ_pieces (own := s.own) hln (fun o ho => HO.out.arcs.lt o ((hm o).1 ho)) (fun o ho => HO.out.nd o ((hm o).1 ho)) (fun x hx e => by rw [HO.out.ow x hx e]; exact ⟨fun ⟨o, h1, h2⟩ => ⟨o, (hm o).2 h1, h2⟩, fun ⟨o, h1, h2⟩ => ⟨o, (hm o).1 h1, h2⟩⟩)
  obtain ⟨A3, c3', rfl, _, _⟩ := HR3.out.shape
  have hb3 : Below w.heap.size w w3 := Touch.acc HB2.out HT.out (fun q hq => (HR2.out.lt q (Option.mem_toList.1 hq)).1)
  refine ⟨joinJ true D, (joinJ true D).map AO.zero, A3, c3', rfl, ⟨HR3.out, fun q hq => Nat.le_trans HB2.out.size (HN.out q hq)⟩, k1, k2, by simp, fun i p q hp hq => ?_, hb3⟩
  rw [List.getElem?_map, hp] at hq
  obtain rfl := Option.some.inj hq
  obtain ⟨_, a, b⟩ := k3 p (List.mem_of_getElem? hp)
  exact ⟨rfl, rfl, fun x y hx => a x y hx, b⟩
set_option maxHeartbeats 2000000 in
theorem hdEpoch_any {w : World} {g : Nat} {s : HO} {F : List Nat} (hk : s.k ≤ 1000) (h : VD w g s F) : Calls Tryz.prog 19 #[.pointer (some ⟨g, 0, none⟩)] w fun e w' => (∃ ep : Int, e = .returned (.int .i64 ep) ∧ (Greatest s.own (fun _ => True) ep ∨ ((∀ x, x < 18446744073709551616 → s.own x = none) ∧ ep = 0))) ∧ Below w.heap.size w w' := by
  obtain ⟨l, S, sp, Fs, Fg, h, rfl⟩ := h
  have C0 := Lib.hid (none_any g sp w h.c4)
  obtain ⟨A, c, rfl, _, _⟩ := h.row.shape
  have c3 := h.c3
  have HO := Lib.hid h.ol
  have HR := Lib.hid h.row
  obtain ⟨n, hn⟩ : ∃ n, l.length = n := ⟨_, rfl⟩
  have HN := Lib.hid hn
  have hn2 : n ≤ 10000 := by have := h.few; omega
  rw [hn] at HR c3
  clear h hk hn
  go_enter Tryz.func19, Tryz.ntmps19
  go_wp2_with (go_at_call 33; (with_reducible refine (C0.out).mono ?_); rintro e w1 ⟨rfl, rfl⟩)
  go_loopg [3, 13] (n + 1) (fun gh s3 s13 wx => ∃ (i : Nat) (ep : Int), i + gh = n + 1 ∧ i ≤ n ∧ s3 = .int .i64 ep ∧ s13 = .int .i64 (i : Nat) ∧ Hid ((∀ p ∈ l.take i, p.e ≤ ep) ∧ 0 ≤ ep ∧ (i = 0 → ep = 0) ∧ (0 < i → ∃ p ∈ l.take i, p.e = ep)) ∧ Hid (Below w.heap.size w wx))
  case atStart => exact ⟨0, 0, by omega, by omega, rfl, rfl, ⟨by simp, Int.le_refl _, fun _ => rfl, fun h => absurd h (Nat.lt_irrefl _)⟩, Below.refl _ _⟩
  case round =>
    obtain ⟨i, ep, hig, hin, rfl, rfl, HE, HB⟩ := hrel
    by_cases hlt : i < n
    · obtain ⟨o, ho⟩ : ∃ o, l[i]? = some o := ⟨_, List.getElem?_eq_getElem (by rw [HN.out]; exact hlt)⟩
      have i1 : (i : Int) < (n : Int) := by omega
      obtain ⟨g5, o5, rfl⟩ := (HR.out.below HB.out).at_ (show 0 < n by omega)
      obtain ⟨x0, x1, x2, x3⟩ := ow_four (HR.out.below HB.out) ho
      have HTK : Hid (l.take (i + 1) = l.take i ++ [o]) := by show _ = _; rw [List.take_add_one, ho]; rfl
      have HOE := Lib.hid (HO.out.arcs.rng o (List.mem_of_getElem? ho)).2.2
      obtain ⟨m, hm⟩ : ∃ m, max ep o.e = m := ⟨_, rfl⟩
      have HM := Lib.hid hm
      clear ho
      go_wp2_with fail
      go_roundg (gk - 1)
      case measure => omega
      case rel =>
        refine ⟨i + 1, m, by omega, by omega, rfl, by go_num, ?_, ?_⟩
        · have hm' := HM.out
          obtain ⟨e1, e2, e3, e4⟩ := HE.out
          have m1 : ep ≤ m ∧ o.e ≤ m ∧ (o.e ≤ ep → m = ep) ∧ (¬ o.e ≤ ep → m = o.e) := hm' ▸ max_facts ep o.e
          clear hm'
          refine ⟨fun p hp => ?_, by omega, fun z => absurd z (Nat.succ_ne_zero i), fun _ => ?_⟩
          · rw [HTK.out] at hp
            rcases List.mem_append.1 hp with z | z
            · have := e1 p z; omega
            · rw [List.mem_singleton.1 z]; omega
          · rw [HTK.out]
            by_cases k : o.e ≤ ep
            · by_cases k0 : 0 < i
              · obtain ⟨p, a, b⟩ := e4 k0
                exact ⟨p, by simp [a], by omega⟩
              · have z0 : i = 0 := Nat.eq_zero_of_not_pos k0
                have := e3 z0
                exact ⟨o, by simp, by have := HOE.out; omega⟩
            · exact ⟨o, by simp, (m1.2.2.2 k).symm⟩
        · exact acc HB.out ((Below.refl _ _).alloc (Nat.le_refl _) _)
    · obtain rfl : i = n := by omega
      go_wp2_with fail
      go_ret
      refine ⟨⟨ep, rfl, ?_⟩, HB.out⟩
      obtain ⟨e1, e2, e3, e4⟩ := HE.out
      rw [List.take_of_length_le (by rw [HN.out]; exact Nat.le_refl _)] at e1 e4
      by_cases k0 : 0 < i
      · left
        obtain ⟨p, a, b⟩ := e4 k0
        refine ⟨fun x y hx _ hy => ?_, p.f, (HO.out.arcs.lt p a).1, trivial, (HO.out.ow _ (HO.out.arcs.lt p a).1 _).2 ⟨p, a, HO.out.arcs.first a, b⟩⟩
        obtain ⟨o, h1, _, rfl⟩ := (HO.out.ow x hx y).1 hy
        exact e1 o h1
      · right
        refine ⟨fun x hx => (own_none HO.out.ow hx).2 fun o ho => ?_, e3 (by omega)⟩
        have : l = [] := List.length_eq_zero_iff.1 (by rw [HN.out]; omega)
        rw [this] at ho
        cases ho
theorem HM.gatePost {w w1 : World} {g sp : Nat} {s : HO} {l : List AO} {S : Value} {Fs Fg : List Nat} {gs : GS} (h : HM w g s l S sp Fs Fg) {Fg' : List Nat} (hv : Gi.VG w1 g (hcOf s S sp) gs Fg') (t : Touch Fg w w1) (hn : ∀ q ∈ Fg', q ∈ Fg ∨ w.heap.size ≤ q) (v : Value) : HdPost VD w g (hF S Fs Fg) v ⟨s.nd, s.most, s.kept, s.own, s.its, gs, s.k⟩ (.returned v) w1 := by
  refine ⟨_, rfl, ⟨l, S, sp, Fs, Fg', h.setGate hv t hn, rfl⟩, t.mono (fun q hq => mem_hF.2 (.inr (.inr hq))), fun q hq => ?_⟩
  rcases mem_hF.1 hq with z | z | z
  · exact .inl (mem_hF.2 (.inl z))
  · exact .inl (mem_hF.2 (.inr (.inl z)))
  · rcases hn q z with y | y
    · exact .inl (mem_hF.2 (.inr (.inr y)))
    · exact .inr y
set_option maxHeartbeats 1000000 in
theorem hdThaw_any {w : World} {g : Nat} {s : HO} {F : List Nat} (h : VD w g s F) : Calls Tryz.prog 24 #[.pointer (some ⟨g, 0, none⟩)] w (HdPost VD w g F (.tuple #[]) ⟨s.nd, s.most, s.kept, s.own, s.its, s.g.thaw, s.k⟩) := by
  obtain ⟨l, S, sp, Fs, Fg, h, rfl⟩ := h
  have C0 := Lib.hid (none_any g sp w h.c4)
  have C1 := Lib.hid (Gi.gateThaw_any h.gate)
  have HH := Lib.hid h
  clear h
  go_enter Tryz.func24, Tryz.ntmps24
  go_wp2_with (first
    | (go_at_call 33; (with_reducible refine (C0.out).mono ?_); rintro e w1 ⟨rfl, rfl⟩)
    | (go_at_call 56; (with_reducible refine (C1.out).mono ?_); rintro e w2 ⟨Fg', rfl, h1, h2, h3⟩; have H1 := Lib.hid h1; have H2 := Lib.hid h2; have H3 := Lib.hid h3; clear h1 h2 h3))
  go_end0
  exact HH.out.gatePost H1.out H2.out H3.out _
set_option maxHeartbeats 1000000 in
theorem hdTick_any {w : World} {g : Nat} {s : HO} {F : List Nat} (h : VD w g s F) : Calls Tryz.prog 31 #[.pointer (some ⟨g, 0, none⟩)] w (HdPost VD w g F (.tuple #[]) ⟨s.nd, s.most, s.kept, s.own, s.its, s.g.tick, s.k⟩) := by
  obtain ⟨l, S, sp, Fs, Fg, h, rfl⟩ := h
  have C0 := Lib.hid (none_any g sp w h.c4)
  have C1 := Lib.hid (Gi.gateTick_any h.gate)
  have HH := Lib.hid h
  clear h
  go_enter Tryz.func31, Tryz.ntmps31
  go_wp2_with (first
    | (go_at_call 33; (with_reducible refine (C0.out).mono ?_); rintro e w1 ⟨rfl, rfl⟩)
    | (go_at_call 64; (with_reducible refine (C1.out).mono ?_); rintro e w2 ⟨Fg', rfl, h1, h2, h3⟩; have H1 := Lib.hid h1; have H2 := Lib.hid h2; have H3 := Lib.hid h3; clear h1 h2 h3))
  go_end0
  exact HH.out.gatePost H1.out H2.out H3.out _
end Go.Proofs.YthgndgoljchnfaaGreat
