/-
  Len, Owner, Next: what goes through a view's arcs.
-/
import Derived.Test.YthjhfnbcfgkehaaViewTour
import Derived.Test.YthjhfnbcfgkehaaSeqA
namespace Go.Proofs.Ythjhfnbcfgkehaa
open Go.RowKit

attribute [local go_sem] Oper.semAt_some

theorem arcsR_len (h : Nat) : ∀ P : List PT, (arcsR h P).length ≤ P.length
  | [] => Nat.le_refl _
  | p :: r => by
    have := arcsR_len h r
    unfold arcsR
    split
    · simp only [List.length_cons]; omega
    · simp only [List.length_cons]; omega
theorem VH.big {w : World} {g : Nat} {a : List AO} {F : List Nat} (h : VH w g a F) : a.length ≤ 9223372036854775807 := by
  obtain ⟨P, A, n, c, h1, rfl, h3, h4⟩ := h
  have := arcsR_len (nxh 0 P) P
  rcases h4 with ⟨rfl, rfl, rfl, rfl, rfl⟩ | ⟨q, rfl, hr, hq, rfl⟩
  · exact Nat.le_trans this (by decide)
  · have h5 := pr_big hr
    rw [← pr_len hr] at h5
    exact Nat.le_trans this h5
/-- the way that All makes, at whatever world behind -/
theorem VH.way {w W : World} {g b : Nat} {a : List AO} {F : List Nat} (h : VH w g a F) (hb : Below w.heap.size w W) (hc : W.cell? ⟨b, 0, none⟩ = some (.pointer (some ⟨g, 0, none⟩))) :
    WayY 35 #[.pointer (some ⟨b, 0, none⟩)] encO a F W := by
  have h1 := h.touch_ (Touch.ofBelow (F := []) hb) (by simp)
  have hm := h1.mem.2
  obtain ⟨P, A, n, c, h2, rfl, h3, h4⟩ := h1
  exact partsWay hm h3 h4 hc
theorem VH.tour {w W : World} {g b : Nat} {a : List AO} {F : List Nat} (h : VH w g a F) (hb : Below w.heap.size w W) (hc : W.cell? ⟨b, 0, none⟩ = some (.pointer (some ⟨g, 0, none⟩))) :
    Tour 35 #[.pointer (some ⟨b, 0, none⟩)] encO a F W := by
  have h1 := h.touch_ (Touch.ofBelow (F := []) hb) (by simp)
  have hm := h1.mem.2
  obtain ⟨P, A, n, c, h2, rfl, h3, h4⟩ := h1
  exact partsTour hm h3 h4 hc
set_option maxRecDepth 100000 in
set_option maxHeartbeats 4000000 in
theorem len_any {W : World} {g : Nat} {a : List AO} {F : List Nat} (h : VH W g a F) :
    Calls Try.prog 13 #[.pointer (some ⟨g, 0, none⟩)] W fun e w' => e = .returned (.int .i64 (a.length : Nat)) ∧ Below W.heap.size W w' := by
  have HVH := Lib.hid h
  have HBG := Lib.hid h.big
  have HFS := Lib.hid h.mem.2
  clear h
  refine (callsIn_wide (n := 0)).1 (callsIn_of_wp_marks Try.func13 rfl trivial ?_ rfl)
  simp only [Try.ntmps13, List.size_toArray, List.length_cons, List.length_nil, Nat.reduceAdd, Nat.reduceSub, Array.replicate_succ, Array.replicate_zero, List.push_toArray, List.append_toArray, List.nil_append, List.cons_append]
  gi_wp2_with (refine ⟨trivial, rfl, ?_⟩; gi_at_call 21; refine (callsIn_wide.2 (all_any _ _)).mono ?_; rintro e w' ⟨rfl, rfl⟩)
  have v0 : Var ((W.alloc (.cells #[.int .i64 0] 3)).alloc (.cells #[.pointer (some ⟨g, 0, none⟩)] 29)) W.heap.size (.int .i64 0) := ⟨by go_simp, by go_simp⟩
  have v1 : Var ((W.alloc (.cells #[.int .i64 0] 3)).alloc (.cells #[.pointer (some ⟨g, 0, none⟩)] 29)) (W.heap.size + 1) (.pointer (some ⟨g, 0, none⟩)) := ⟨by go_simp, by go_simp⟩
  have b2 : Below W.heap.size W ((W.alloc (.cells #[.int .i64 0] 3)).alloc (.cells #[.pointer (some ⟨g, 0, none⟩)] 29)) := ((Below.refl _ W).alloc (Nat.le_refl _) _).alloc (by simp) _
  have z2 : ((W.alloc (.cells #[.int .i64 0] 3)).alloc (.cells #[.pointer (some ⟨g, 0, none⟩)] 29)).heap.size = W.heap.size + 2 := by simp
  generalize ((W.alloc (.cells #[.int .i64 0] 3)).alloc (.cells #[.pointer (some ⟨g, 0, none⟩)] 29)) = W2 at *
  have HB := Lib.hid b2
  refine wp_seq (α := AO) (enc := encO) (gf := 35) (lb := #[.pointer (some ⟨W.heap.size + 1, 0, none⟩)]) rfl (enters_of Try.func35 (by kernel_rfl) rfl) (xs := a) (B := F)
    (fun V hV => HVH.out.way (HB.out.trans (hV.mono (by omega))) (v1.below hV).val) (fun q hq => by have := HFS.out q hq; omega) (fun _ => rfl)
    (fun n V Y => Y = [W.heap.size] ∧ Var V W.heap.size (.int .i64 (n : Nat)))
    (fun _ _ _ => False) [W.heap.size] (by simp; omega) ⟨rfl, v0⟩
    (by
      rintro n V V1 Y G ⟨rfl, h1⟩ tt hn
      exact ⟨rfl, h1.touch tt (hn _ (by simp))⟩)
    (fun _ _ _ _ _ h _ _ => h)
    (fun x => { tmps := #[.pointer (some ⟨g, 0, none⟩), undef, .int .i64 0, .pointer (some ⟨W.heap.size, 0, none⟩), .pointer (some ⟨g, 0, none⟩), .func (.func 35) #[] #[.pointer (some ⟨W.heap.size + 1, 0, none⟩)], .agg x.cells, undef, undef, undef], defers := [] })
    ?assign ?body ?done ?stop
  case assign =>
    intro lp x V K hK
    gi_wp2
    simpa [encO] using hK
  case body =>
    rintro lp n x V Y hV hx ⟨rfl, h1⟩ hY
    have hb : n < 9223372036854775807 := by
      have := (List.getElem?_eq_some_iff.1 hx).1
      have := HBG.out
      omega
    have c1 := h1.val
    have f1 := h1.free
    have H1 := Lib.hid h1
    have HY := Lib.hid hY
    have hnF : W.heap.size ∉ F := fun z => Nat.lt_irrefl _ (HFS.out _ z)
    clear h1 hx hY
    gi_wp2
    exact ⟨_, ⟨⟨[W.heap.size], (Touch.refl _ _).set (.inl (by simp)) _, fun q hq => ⟨hq, fun z => by simp at hq; subst hq; exact hnF z⟩⟩, fun q hq => ⟨by simpa [World.setCell] using HY.out q hq, .inl hq⟩⟩, rfl, H1.out.set _⟩
  case done =>
    rintro D V Y hD hDn hL ⟨rfl, h1⟩ hK
    have hB := Left.new HB.out hL (by simp)
    have c1 := h1.val
    have HK := Lib.hid hK
    have HD : Hid (Below W.heap.size W (V.putObj D (.deferred none))) := hB.trans (belowK_b (w := W) (Nat.le_refl _) V D _ _ (by omega) hK rfl rfl)
    clear hB hL h1
    gi_wp2
    refine ⟨by simp, .inl ⟨_, _, rfl, run_takeDeferred HK.out, ?_⟩⟩
    exact ⟨_, results_tmp rfl _ _ _, rfl, HD.out⟩
  case stop =>
    rintro D c V Y hD hDn hL h hK
    exact h.elim
theorem VH.arcs {w : World} {g : Nat} {a : List AO} {F : List Nat} (h : VH w g a F) : Arcs a := by
  obtain ⟨P, A, n, c, h1, rfl, h3, h4⟩ := h
  exact h1.arcs
def OwnPost (W : World) (a : List AO) (x : Nat) (e : Ending) (w' : World) : Prop := Around a x (fun p => .agg p.cells) (.agg ZO.cells) e ∧ Below W.heap.size W w'
theorem own_yes {a : List AO} (h : Arcs a) {x : Nat} (hx : x < 18446744073709551616) {p : AO} (hp : p ∈ a) (h1 : p.has x = true) (yes : AO → Value) (no : Value) : Around a x yes no (.returned (.tuple #[yes p, .bool true])) :=
  ⟨fun q hq h2 => (by rw [h.one hp hq hx h1 h2]), fun h2 => (by rw [h2 p hp] at h1; cases h1)⟩
theorem own_no {a : List AO} {x : Nat} (h1 : ∀ p ∈ a, p.has x = false) (yes : AO → Value) (no : Value) : Around a x yes no (.returned (.tuple #[no, .bool false])) :=
  ⟨fun q hq h2 => (by rw [h1 q hq] at h2; cases h2), fun _ => rfl⟩
/-- an arc in a block of its own -/
abbrev OBlk (V : World) (b : Nat) (p : AO) : Prop := V.heap[b]? = some (.cells p.cells 27)
theorem OBlk.cells {V : World} {b : Nat} {p : AO} (h : OBlk V b p) : V.cell? ⟨b, 0, none⟩ = some (.int .u64 (p.f : Nat)) ∧ V.cell? ⟨b, 1, none⟩ = some (.int .u64 (p.t : Nat)) ∧ V.cell? ⟨b, 2, none⟩ = some (.int .i64 p.n) ∧ V.cell? ⟨b, 3, none⟩ = some (.int .i64 p.e) :=
  ⟨by rw [Lib.cell_of_heap h]; rfl, by rw [Lib.cell_of_heap h]; rfl, by rw [Lib.cell_of_heap h]; rfl, by rw [Lib.cell_of_heap h]; rfl⟩
theorem OBlk.touch {V V1 : World} {b : Nat} {p : AO} {G : List Nat} (h : OBlk V b p) (t : Touch G V V1) (hn : b ∉ G) : OBlk V1 b p := (t.block b (bx_lt h) hn).trans h
set_option maxRecDepth 100000 in
set_option maxHeartbeats 4000000 in
theorem owner_any {W : World} {g : Nat} {a : List AO} {F : List Nat} (h : VH W g a F) (x : Nat) (hx : x < 18446744073709551616) :
    Calls Try.prog 9 #[.pointer (some ⟨g, 0, none⟩), .int .u64 (x : Nat)] W (OwnPost W a x) := by
  have HVH := Lib.hid h
  have HAR := Lib.hid h.arcs
  have HFS := Lib.hid h.mem.2
  clear h
  refine (callsIn_wide (n := 0)).1 (callsIn_of_wp_marks Try.func9 rfl trivial ?_ rfl)
  simp only [Try.ntmps9, List.size_toArray, List.length_cons, List.length_nil, Nat.reduceAdd, Nat.reduceSub, Array.replicate_succ, Array.replicate_zero, List.push_toArray, List.append_toArray, List.nil_append, List.cons_append]
  gi_wp2_with (refine ⟨trivial, rfl, ?_⟩; gi_at_call 21; refine (callsIn_wide.2 (all_any _ _)).mono ?_; rintro e w' ⟨rfl, rfl⟩)
  obtain ⟨W2, hW2⟩ : ∃ W2, W2 = (((W.alloc (.cells #[.int .u64 (x : Nat)] 23)).alloc (.cells #[.int .u64 0, .int .u64 0, .int .i64 0, .int .i64 0] 27)).alloc (.cells #[.bool false] 4)).alloc (.cells #[.pointer (some ⟨g, 0, none⟩)] 29) := ⟨_, rfl⟩
  rw [← hW2]
  have v0 : Var W2 W.heap.size (.int .u64 (x : Nat)) := by rw [hW2]; exact ⟨by go_simp, by go_simp⟩
  have v1 : OBlk W2 (W.heap.size + 1) ZO := by
    rw [hW2]
    have e := heap_alloc_new (W.alloc (.cells #[.int .u64 (x : Nat)] 23)) (.cells #[.int .u64 0, .int .u64 0, .int .i64 0, .int .i64 0] 27)
    rw [World.size_alloc] at e
    have b : Below (W.heap.size + 1 + 1) ((W.alloc (.cells #[.int .u64 (x : Nat)] 23)).alloc (.cells #[.int .u64 0, .int .u64 0, .int .i64 0, .int .i64 0] 27)) ((((W.alloc (.cells #[.int .u64 (x : Nat)] 23)).alloc (.cells #[.int .u64 0, .int .u64 0, .int .i64 0, .int .i64 0] 27)).alloc (.cells #[.bool false] 4)).alloc (.cells #[.pointer (some ⟨g, 0, none⟩)] 29)) := ((Below.refl _ _).alloc (by simp) _).alloc (by simp) _
    exact (b.block _ (by omega)).trans e
  have v2 : Var W2 (W.heap.size + 1 + 1) (.bool false) := by rw [hW2]; exact ⟨by go_simp, by go_simp⟩
  have v3 : Var W2 (W.heap.size + 1 + 1 + 1) (.pointer (some ⟨g, 0, none⟩)) := by rw [hW2]; exact ⟨by go_simp, by go_simp⟩
  have b2 : Below W.heap.size W W2 := by rw [hW2]; exact ((((Below.refl _ W).alloc (Nat.le_refl _) _).alloc (by simp) _).alloc (by simp; omega) _).alloc (by simp; omega) _
  have z2 : W2.heap.size = W.heap.size + 4 := by rw [hW2]; simp
  have HB := Lib.hid b2
  clear hW2 b2
  obtain ⟨Ys, hYs⟩ : ∃ Ys, Ys = [W.heap.size, W.heap.size + 1, W.heap.size + 1 + 1] := ⟨_, rfl⟩
  have m1 : W.heap.size ∈ Ys := by rw [hYs]; simp
  have m2 : W.heap.size + 1 ∈ Ys := by rw [hYs]; simp
  have m3 : W.heap.size + 1 + 1 ∈ Ys := by rw [hYs]; simp
  have HYS : Hid (∀ q ∈ Ys, W.heap.size ≤ q ∧ q < W2.heap.size) := by
    rw [hYs]
    intro q hq
    simp at hq
    omega
  clear hYs
  have hszo : (Try.prog.info? 27).map (·.size) = some 4 := ao_info4
  refine wp_seqA (α := AO) (enc := encO) (gf := 35) (lb := #[.pointer (some ⟨W.heap.size + 1 + 1 + 1, 0, none⟩)]) rfl (enters_of Try.func35 (by kernel_rfl) rfl) (xs := a) (B := F)
    (fun V hV => HVH.out.way (HB.out.trans (hV.mono (by omega))) (v3.below hV).val) (fun q hq => by have := HFS.out q hq; omega) (fun _ => rfl)
    (fun n V Y => Y = Ys ∧ Var V W.heap.size (.int .u64 (x : Nat)) ∧ OBlk V (W.heap.size + 1) ZO ∧ Var V (W.heap.size + 1 + 1) (.bool false) ∧ ∀ p ∈ a.take n, p.has x = false)
    (fun c V Y => Y = Ys ∧ c = .ret ∧ ∃ p ∈ a, p.has x = true ∧ OBlk V (W.heap.size + 1) p ∧ Var V (W.heap.size + 1 + 1) (.bool true))
    Ys (fun q hq => (HYS.out q hq).2) ⟨rfl, v0, v1, v2, fun p hp => by simp at hp⟩
    (by
      rintro n V V1 Y G ⟨rfl, h1, h2, h3, h4⟩ tt hn
      exact ⟨rfl, h1.touch tt (hn _ m1), h2.touch tt (hn _ m2), h3.touch tt (hn _ m3), h4⟩)
    (by
      rintro c V V1 Y G ⟨rfl, h1, p, hp, h2, h3, h4⟩ tt hn
      exact ⟨rfl, h1, p, hp, h2, h3.touch tt (hn _ m2), h4.touch tt (hn _ m3)⟩)
    (fun n W0 p a1 V => OBlk V W0.heap.size p ∧ a1 = { tmps := #[.pointer (some ⟨g, 0, none⟩), .int .u64 (x : Nat), undef, .pointer (some ⟨W.heap.size, 0, none⟩), .pointer (some ⟨W.heap.size + 1, 0, none⟩), .pointer (some ⟨W.heap.size + 1 + 1, 0, none⟩), .pointer (some ⟨W0.heap.size, 0, none⟩), .pointer (some ⟨g, 0, none⟩), .func (.func 35) #[] #[.pointer (some ⟨W.heap.size + 1 + 1 + 1, 0, none⟩)], .agg p.cells, undef, undef, undef, undef, undef, undef], defers := [] })
    (by
      rintro n V x a1 V1 V2 G ⟨h1, h2⟩ tt hG
      exact ⟨h1.touch tt (fun z => Nat.lt_irrefl _ (hG _ z)), h2⟩)
    ?assign ?body ?done ?stop
  case assign =>
    rintro l n p V K hx hK
    have hold : ZO.cells.size = p.cells.size := rfl
    have hone := ao_one4 p
    have hszq : (Try.prog.info? 27).map (·.size) = some p.cells.size := hszo
    have HKK := Lib.hid (hK _ _ (bx_new V ZO.cells p.cells 27) ⟨bx_row _ (heap_alloc_new V _), rfl⟩)
    clear hK hx
    have ez : encO p = #[.agg p.cells] := rfl
    rw [ez]
    gi_wp2_with (with_reducible (show wpListIn _ _ _ _ _ (⟨none, Op.store _ (Operand.tmp 6) _, _, _, _, _⟩ :: _) _ _); go_must (refine wpListIn_store_row rfl 27 (.tmp 6) (.tmp 9) rfl V.heap.size p.cells rfl rfl 27 ZO.cells (heap_alloc_new V _) hszq hold hone ?_))
    exact HKK.out
  case body =>
    rintro lp n p W0 V a1 Y hW0 hV hx ⟨rfl, h1, h2, h3, h4⟩ hY ⟨h5, rfl⟩
    obtain ⟨c0, c1, c2, c3⟩ := h5.cells
    have x0 := h1.val
    have hlt := HAR.out.lt p (List.mem_of_getElem? hx)
    have CI : Hid (Calls Try.prog 10 #[.agg #[.int .u64 (p.f : Nat), .int .u64 (p.t : Nat)], .int .u64 (x : Nat)] V fun e w' => e = .returned (.bool (inB p.f p.t x)) ∧ Below V.heap.size V w') := in_any p.f p.t x V hlt.1 hlt.2 ‹_›
    obtain ⟨ib, hib⟩ : ∃ ib, inB p.f p.t x = ib := ⟨_, rfl⟩
    rw [hib] at CI
    have hW0V : W0.heap.size < V.heap.size := bx_lt h5
    have H1 := Lib.hid h1
    have H2 := Lib.hid h2
    have H3 := Lib.hid h3
    have H4 := Lib.hid h4
    have H5 := Lib.hid h5
    have HX := Lib.hid hx
    have HIB := Lib.hid hib
    have HY := Lib.hid hY
    have hYF : Hid (∀ q ∈ Y, q ∉ F) := fun q hq z => by have := (HYS.out q hq).1; have := HFS.out q z; omega
    clear h1 h2 h3 h4 h5 hx hib hY
    cases ib with
    | false =>
      gi_wp2_with (refine ⟨trivial, rfl, ?_⟩; gi_at_call 10; refine (CallsIn.inRound lp (callsIn_wide.2 CI.out)).mono ?_; rintro e w1 ⟨rfl, hb1⟩; have HB1 := Lib.hid hb1; clear hb1)
      have t1 : Touch [] V w1 := Touch.ofBelow HB1.out
      refine ⟨Y, ⟨⟨[], t1, by simp⟩, fun q hq => ⟨Nat.lt_of_lt_of_le (by have := (HYS.out q hq).2; omega) HB1.out.size, .inl hq⟩⟩, rfl, H1.out.touch t1 (by simp), H2.out.touch t1 (by simp), H3.out.touch t1 (by simp), fun r hr => ?_⟩
      rw [List.take_add_one, HX.out] at hr
      rcases List.mem_append.1 hr with z | z
      · exact H4.out r z
      · simp at z; subst z; exact HIB.out
    | true =>
      have hszq : (Try.prog.info? 27).map (·.size) = some p.cells.size := hszo
      have hold : ZO.cells.size = p.cells.size := rfl
      have hone := ao_one4 p
      gi_wp2_with (first
        | (refine ⟨trivial, rfl, ?_⟩; gi_at_call 10; refine (CallsIn.inRound lp (callsIn_wide.2 CI.out)).mono ?_; rintro e w1 ⟨rfl, hb1⟩; have HB1 := Lib.hid hb1; have hp1 := H5.out.touch (Touch.ofBelow (F := []) hb1) (by simp); have ho1 := H2.out.touch (Touch.ofBelow (F := []) hb1) (by simp); have hv1 := H3.out.touch (Touch.ofBelow (F := []) hb1) (by simp); have k3 : ((w1.setRow (W.heap.size + 1) p.cells)).cell? ⟨W.heap.size + 1 + 1, 0, none⟩ = some (.bool false) := (hv1.touch (bx_touch w1 (W.heap.size + 1) p.cells) (by simp)).val; have f3 : ((w1.setRow (W.heap.size + 1) p.cells)).frozen? ⟨W.heap.size + 1 + 1, 0, none⟩ = false := (hv1.touch (bx_touch w1 (W.heap.size + 1) p.cells) (by simp)).free; have HO1 := Lib.hid ho1; have HV1 := Lib.hid hv1; clear hb1 hv1)
        | (with_reducible (show wpListIn _ _ _ _ _ (⟨some 14, Op.load _ _, _, _, _, _⟩ :: _) _ _); go_must (refine wpListIn_load_row rfl 27 (.tmp 6) rfl W0.heap.size rfl 27 p.cells (0, 0) _ hp1 Try.underlying27 rfl hszq ?_))
        | (with_reducible (show wpListIn _ _ _ _ _ (⟨none, Op.store _ (Operand.tmp 4) _, _, _, _, _⟩ :: _) _ _); go_must (refine wpListIn_store_row rfl 27 (.tmp 4) (.tmp 14) rfl (W.heap.size + 1) p.cells rfl rfl 27 ZO.cells ho1 hszq hold hone ?_)))
      have t1 : Touch [W.heap.size + 1] V (w1.setRow (W.heap.size + 1) p.cells) := (Touch.ofBelow (F := [W.heap.size + 1]) HB1.out).trans (bx_touch w1 (W.heap.size + 1) p.cells) (by simp)
      have t2 : Touch [W.heap.size + 1, W.heap.size + 1 + 1] V ((w1.setRow (W.heap.size + 1) p.cells).setCell ⟨W.heap.size + 1 + 1, 0, none⟩ (.bool true)) := (t1.mono (G := [W.heap.size + 1, W.heap.size + 1 + 1]) (by simp)).set (.inl (by simp)) _
      refine ⟨Y, ⟨⟨_, t2, fun q hq => ?_⟩, fun q hq => ⟨Nat.lt_of_lt_of_le (by have := (HYS.out q hq).2; omega) t2.size, .inl hq⟩⟩, rfl, rfl, p, List.mem_of_getElem? HX.out, HIB.out, ?_, ?_⟩
      · simp at hq
        rcases hq with rfl | rfl
        · exact ⟨m2, hYF.out _ m2⟩
        · exact ⟨m3, hYF.out _ m3⟩
      · have e : OBlk (w1.setRow (W.heap.size + 1) p.cells) (W.heap.size + 1) p := bx_row _ HO1.out
        exact e.touch ((Touch.refl [W.heap.size + 1 + 1] _).set (p := ⟨W.heap.size + 1 + 1, 0, none⟩) (.inl (by simp)) _) (by simp)
      · exact (HV1.out.touch (bx_touch w1 (W.heap.size + 1) p.cells) (by simp)).set _
  case done =>
    rintro D V Y hD hDn hL ⟨rfl, h1, h2, h3, h4⟩ hK
    have hB := Left.new HB.out hL (fun q hq => (HYS.out q hq).1)
    rw [List.take_length] at h4
    have hold : ZO.cells.size = ZO.cells.size := rfl
    have hszq : (Try.prog.info? 27).map (·.size) = some ZO.cells.size := hszo
    have hone := ao_one4 ZO
    have e1 : OBlk (V.setRow (W.heap.size + 1) ZO.cells) (W.heap.size + 1) ZO := bx_row _ h2
    have e2 := h3.touch (bx_touch V (W.heap.size + 1) ZO.cells) (by simp)
    have k3 := e2.val
    have f3 := e2.free
    obtain ⟨S, hS⟩ : ∃ S, S = (V.setRow (W.heap.size + 1) ZO.cells).setCell ⟨W.heap.size + 1 + 1, 0, none⟩ (.bool false) := ⟨_, rfl⟩
    have tS : Touch [W.heap.size + 1, W.heap.size + 1 + 1] V S := by rw [hS]; exact ((bx_touch V (W.heap.size + 1) ZO.cells).mono (G := [W.heap.size + 1, W.heap.size + 1 + 1]) (by simp)).set (.inl (by simp)) _
    have g2 : OBlk S (W.heap.size + 1) ZO := by rw [hS]; exact e1.touch ((Touch.refl [W.heap.size + 1 + 1] _).set (p := ⟨W.heap.size + 1 + 1, 0, none⟩) (.inl (by simp)) _) (by simp)
    have g3 : Var S (W.heap.size + 1 + 1) (.bool false) := by rw [hS]; exact e2.set _
    have hK' : S.heap[D]? = some (.deferred (some [])) := (tS.block D (Array.getElem?_eq_some_iff.1 hK).1 (by simp; omega)).trans hK
    have hp : Touch [D] S (S.putObj D (.deferred none)) := (Touch.refl _ _).put (.inl (by simp)) _
    have k2 := g2.touch hp (by simp; omega)
    have k4 := g3.touch hp (by simp; omega)
    have HD : Hid (Below W.heap.size W (S.putObj D (.deferred none))) := (Touch.acc hB tS (by simp; omega)).trans (belowK_b (w := W) (Nat.le_refl _) S D _ _ (by omega) hK' rfl rfl)
    have K2 := Lib.hid k2
    have K4 := Lib.hid k4
    have HK := Lib.hid hK'
    have HSS := Lib.hid hS
    have H4 := Lib.hid h4
    clear hB hL h1 h3 h4 e1 e2 tS g2 g3 hK hK' hp k2 k4 hS
    gi_wp2_with (with_reducible (show wpListIn _ _ _ _ _ (⟨none, Op.store _ (Operand.tmp 4) _, _, _, _, _⟩ :: _) _ _); go_must (refine wpListIn_store_row rfl 27 (.tmp 4) (.tmp 15) rfl (W.heap.size + 1) ZO.cells rfl rfl 27 ZO.cells h2 hszq hold hone ?_))
    rw [← HSS.out]
    obtain ⟨c0, c1, c2, c3⟩ := K2.out.cells
    have c4 := K4.out.val
    refine ⟨by simp, .inl ⟨_, _, rfl, run_takeDeferred HK.out, ?_⟩⟩
    refine ⟨.tuple #[.agg ZO.cells, .bool false], ?_, own_no H4.out _ _, HD.out⟩
    simp [results, Try.results9, go_sem, c0, c1, c2, c3, c4]
  case stop =>
    rintro D c V Y hD hDn hL ⟨rfl, rfl, p, hp, h2, h3, h4⟩ hK
    have hB := Left.new HB.out hL (fun q hq => (HYS.out q hq).1)
    have hpt : Touch [D] V (V.putObj D (.deferred none)) := (Touch.refl _ _).put (.inl (by simp)) _
    have k2 := h3.touch hpt (by simp; omega)
    have k4 := h4.touch hpt (by simp; omega)
    have HD : Hid (Below W.heap.size W (V.putObj D (.deferred none))) := hB.trans (belowK_b (w := W) (Nat.le_refl _) V D _ _ (by omega) hK rfl rfl)
    have K2 := Lib.hid k2
    have K4 := Lib.hid k4
    have HK := Lib.hid hK
    clear hB hL h3 h4 hpt k2 k4 hK
    gi_wp2
    obtain ⟨c0, c1, c2, c3⟩ := K2.out.cells
    have c4 := K4.out.val
    refine ⟨by simp, .inl ⟨_, _, rfl, run_takeDeferred HK.out, ?_⟩⟩
    refine ⟨.tuple #[.agg p.cells, .bool true], ?_, own_yes HAR.out ‹_› hp h2 (fun p => .agg p.cells) _, HD.out⟩
    simp [results, Try.results9, go_sem, c0, c1, c2, c3, c4]
end Go.Proofs.Ythjhfnbcfgkehaa
