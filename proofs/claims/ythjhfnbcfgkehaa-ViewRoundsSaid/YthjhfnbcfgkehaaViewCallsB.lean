/-
  Next, Ring. (Written by tools/genVR.py.)
-/
import Derived.Test.YthjhfnbcfgkehaaViewCalls
import Derived.Test.YthjhfnbcfgkehaaViewSum
import Derived.Test.YthjhfnbcfgkehaaArcRef
namespace Go.Proofs.Ythjhfnbcfgkehaa
open Go.RowKit

attribute [local go_sem] Oper.semAt_some

def NextPost (W : World) (a : List AO) (x : Nat) (e : Ending) (w' : World) : Prop := Around a x (fun p => .int .u64 (p.t : Nat)) (.int .u64 0) e ∧ Below W.heap.size W w'
set_option maxRecDepth 100000 in
set_option maxHeartbeats 4000000 in
theorem next_any {W : World} {g : Nat} {a : List AO} {F : List Nat} (h : VH W g a F) (x : Nat) (hx : x < 18446744073709551616) :
    Calls Try.prog 15 #[.pointer (some ⟨g, 0, none⟩), .int .u64 (x : Nat)] W (NextPost W a x) := by
  have HAR := Lib.hid h.arcs
  have HX := Lib.hid hx
  have CO := Lib.hid (owner_any h x hx)
  cases hk : kn a x with
  | none =>
    have HK := Lib.hid (kn_none hk)
    have CP : Hid (Calls Try.prog 9 #[.pointer (some ⟨g, 0, none⟩), .int .u64 (x : Nat)] W fun e w' => e = .returned (.tuple #[.agg #[.int .u64 0, .int .u64 0, .int .i64 0, .int .i64 0], .bool false]) ∧ Below W.heap.size W w') := by
      refine CO.out.mono ?_
      rintro e w' ⟨h1, h2⟩
      exact ⟨h1.2 HK.out, h2⟩
    clear h hx hk CO
    go_enter Try.func15, Try.ntmps15
    go_wp2_with (go_at_call 9; (with_reducible refine (CP.out).mono ?_); rintro e w1 ⟨rfl, hb1⟩; have HB1 := Lib.hid hb1; clear hb1)
    refine bodyPost_ret (v := .tuple #[.int .u64 0, .bool false]) (by simp [results, Try.results15, go_sem]) rfl ?_
    exact ⟨own_no HK.out (fun p => .int .u64 (p.t : Nat)) _, acc HB1.out ((Below.refl _ _).alloc (Nat.le_refl _) _)⟩
  | some v =>
    obtain ⟨p, hp, h1, -⟩ := kn_some hk
    have HP : Hid (p ∈ a ∧ p.has x = true) := ⟨hp, h1⟩
    have CP : Hid (Calls Try.prog 9 #[.pointer (some ⟨g, 0, none⟩), .int .u64 (x : Nat)] W fun e w' => e = .returned (.tuple #[.agg #[.int .u64 (p.f : Nat), .int .u64 (p.t : Nat), .int .i64 p.n, .int .i64 p.e], .bool true]) ∧ Below W.heap.size W w') := by
      refine CO.out.mono ?_
      rintro e w' ⟨h1, h2⟩
      exact ⟨h1.1 p HP.out.1 HP.out.2, h2⟩
    clear h hx hk CO hp h1
    go_enter Try.func15, Try.ntmps15
    go_wp2_with (go_at_call 9; (with_reducible refine (CP.out).mono ?_); rintro e w1 ⟨rfl, hb1⟩; have HB1 := Lib.hid hb1; clear hb1)
    refine bodyPost_ret (v := .tuple #[.int .u64 (p.t : Nat), .bool true]) (by simp [results, Try.results15, go_sem]) rfl ?_
    exact ⟨own_yes HAR.out HX.out HP.out.1 HP.out.2 (fun p => .int .u64 (p.t : Nat)) _, acc HB1.out ((Below.refl _ _).alloc (Nat.le_refl _) _)⟩
def RngPost (W : World) (a : List AO) (e : Ending) (w' : World) : Prop := (∃ b, e = .returned (.bool b) ∧ (b = true ↔ ∀ x, x < 18446744073709551616 → kn a x ≠ none)) ∧ Below W.heap.size W w'
theorem VH.ring {w : World} {g : Nat} {a : List AO} {F : List Nat} (h : VH w g a F) : (a ≠ [] ∧ sumA a = 0) ↔ ∀ x, x < 18446744073709551616 → kn a x ≠ none := by
  obtain ⟨P, A, n, c, h1, rfl, h3, h4⟩ := h
  exact ring_iff h1
/-- is there one? -/
def hasOne {α : Type} : List α → Bool
  | [] => false
  | _ => true
theorem hasOne_iff {α : Type} {l : List α} : hasOne l = true ↔ l ≠ [] := by cases l <;> simp [hasOne]
set_option maxRecDepth 100000 in
set_option maxHeartbeats 4000000 in
theorem isRing_any {W : World} {g : Nat} {a : List AO} {F : List Nat} (h : VH W g a F) :
    Calls Try.prog 14 #[.pointer (some ⟨g, 0, none⟩)] W (RngPost W a) := by
  have HVH := Lib.hid h
  have HAR := Lib.hid h.arcs
  have HFS := Lib.hid h.mem.2
  have HRG := Lib.hid h.ring
  clear h
  refine (callsIn_wide (n := 0)).1 (callsIn_of_wp_marks Try.func14 rfl trivial ?_ rfl)
  simp only [Try.ntmps14, List.size_toArray, List.length_cons, List.length_nil, Nat.reduceAdd, Nat.reduceSub, Array.replicate_succ, Array.replicate_zero, List.push_toArray, List.append_toArray, List.nil_append, List.cons_append]
  gi_wp2_with (refine ⟨trivial, rfl, ?_⟩; gi_at_call 21; refine (callsIn_wide.2 (all_any _ _)).mono ?_; rintro e w' ⟨rfl, rfl⟩)
  obtain ⟨W2, hW2⟩ : ∃ W2, W2 = ((W.alloc (.cells #[.bool false] 4)).alloc (.cells #[.int .u64 0] 23)).alloc (.cells #[.pointer (some ⟨g, 0, none⟩)] 29) := ⟨_, rfl⟩
  rw [← hW2]
  have v1 : Var W2 W.heap.size (.bool false) := by rw [hW2]; exact ⟨by go_simp, by go_simp⟩
  have v2 : Var W2 (W.heap.size + 1) (.int .u64 0) := by rw [hW2]; exact ⟨by go_simp, by go_simp⟩
  have v3 : Var W2 (W.heap.size + 1 + 1) (.pointer (some ⟨g, 0, none⟩)) := by rw [hW2]; exact ⟨by go_simp, by go_simp⟩
  have b2 : Below W.heap.size W W2 := by rw [hW2]; exact (((Below.refl _ W).alloc (Nat.le_refl _) _).alloc (by simp) _).alloc (by simp; omega) _
  have z2 : W2.heap.size = W.heap.size + 3 := by rw [hW2]; simp
  have HB := Lib.hid b2
  clear hW2 b2
  obtain ⟨Ys, hYs⟩ : ∃ Ys, Ys = [W.heap.size, W.heap.size + 1] := ⟨_, rfl⟩
  have m1 : W.heap.size ∈ Ys := by rw [hYs]; simp
  have m2 : W.heap.size + 1 ∈ Ys := by rw [hYs]; simp
  have HYS : Hid (∀ q ∈ Ys, W.heap.size ≤ q ∧ q < W2.heap.size) := by
    rw [hYs]
    intro q hq
    simp at hq
    omega
  clear hYs
  have hmx : Try.prog.follows .mixedOrders = true := by kernel_rfl
  have hszo : (Try.prog.info? 27).map (·.size) = some 4 := ao_info4
  refine wp_seqA (α := AO) (enc := encO) (gf := 35) (lb := #[.pointer (some ⟨W.heap.size + 1 + 1, 0, none⟩)]) rfl (enters_of Try.func35 (by kernel_rfl) rfl) (xs := a) (B := F)
    (fun V hV => HVH.out.way (HB.out.trans (hV.mono (by omega))) (v3.below hV).val) (fun q hq => by have := HFS.out q hq; omega) (fun _ => rfl)
    (fun n V Y => Y = Ys ∧ Var V W.heap.size (.bool (hasOne (a.take n))) ∧ Var V (W.heap.size + 1) (.int .u64 (sumA (a.take n) : Nat)))
    (fun _ _ _ => False)
    Ys (fun q hq => (HYS.out q hq).2) ⟨rfl, v1, v2⟩
    (by
      rintro n V V1 Y G ⟨rfl, h1, h2⟩ tt hn
      exact ⟨rfl, h1.touch tt (hn _ m1), h2.touch tt (hn _ m2)⟩)
    (fun _ _ _ _ _ h _ _ => h)
    (fun n W0 p a1 V => OBlk V W0.heap.size p ∧ a1 = { tmps := #[.pointer (some ⟨g, 0, none⟩), undef, .bool false, .pointer (some ⟨W.heap.size, 0, none⟩), .pointer (some ⟨W.heap.size + 1, 0, none⟩), .pointer (some ⟨W0.heap.size, 0, none⟩), .pointer (some ⟨g, 0, none⟩), .func (.func 35) #[] #[.pointer (some ⟨W.heap.size + 1 + 1, 0, none⟩)], .agg p.cells, undef, undef, undef, undef, undef, undef, undef, undef, undef, undef], defers := [] })
    (by
      rintro n V x a1 V1 V2 G ⟨h1, h2⟩ tt hG
      exact ⟨h1.touch tt (fun z => Nat.lt_irrefl _ (hG _ z)), h2⟩)
    ?assign ?body ?done ?stop
  case assign =>
    rintro l n p V K hx hK
    have hold : ZO.cells.size = p.cells.size := rfl
    have hone := ao_one4 p
    have hszq : (Try.prog.info? 27).map (·.size) = some p.cells.size := hszo
    have HKK := Lib.hid (hK _ _ (bx_new V ZO.cells p.cells 27) ⟨bx_row _ (heap_alloc_new V _), rfl⟩)
    clear hK hx
    have ez : encO p = #[.agg p.cells] := rfl
    rw [ez]
    gi_wp2_with (with_reducible (show wpListIn _ _ _ _ _ (⟨none, Op.store _ (Operand.tmp 5) _, _, _, _, _⟩ :: _) _ _); go_must (refine wpListIn_store_row rfl 27 (.tmp 5) (.tmp 8) rfl V.heap.size p.cells rfl rfl 27 ZO.cells (heap_alloc_new V _) hszq hold hone ?_))
    exact HKK.out
  case body =>
    rintro lp n p W0 V a1 Y hW0 hV hx ⟨rfl, h1, h2⟩ hY ⟨h5, rfl⟩
    have hlt := HAR.out.lt p (List.mem_of_getElem? hx)
    have hW0V : W0.heap.size < V.heap.size := bx_lt h5
    have hst : sumA (a.take (n + 1)) = add64 (sumA (a.take n)) (sub64 p.t p.f) := by rw [List.take_add_one, hx]; exact sumA_snoc _ _
    have hsb : hasOne (a.take (n + 1)) = true := by
      rw [List.take_add_one, hx]
      exact hasOne_iff.2 (by simp)
    have c1 := h1.val
    have f1 := h1.free
    obtain ⟨s, hs⟩ : ∃ s, sumA (a.take n) = s := ⟨_, rfl⟩
    have hsl : s < 18446744073709551616 := by rw [← hs]; exact sumA_lt _
    rw [hs] at hst h2
    have hwr := add_u64 hsl (sub64_lt p.t p.f)
    obtain ⟨V2, hV2⟩ : ∃ V2, V2 = V.setCell ⟨W.heap.size, 0, none⟩ (.bool true) := ⟨_, rfl⟩
    have t2 : Touch [W.heap.size] V V2 := by rw [hV2]; exact (Touch.refl _ _).set (.inl (by simp)) _
    have g1 : Var V2 W.heap.size (.bool true) := by rw [hV2]; exact h1.set _
    have g2 := h2.touch t2 (by simp)
    have g5 := h5.touch t2 (by simp; omega)
    have H1 := Lib.hid g1
    have H2 := Lib.hid g2
    have HY := Lib.hid hY
    have HT2 := Lib.hid t2
    have HST := Lib.hid hst
    have HSB := Lib.hid hsb
    have HV2 := Lib.hid hV2
    have hYF : Hid (∀ q ∈ Y, q ∉ F) := fun q hq z => by have := (HYS.out q hq).1; have := HFS.out q z; omega
    have HFIN : Hid (∀ w1, Below V2.heap.size V2 w1 → ∃ Y', Left F Y V (w1.setCell ⟨W.heap.size + 1, 0, none⟩ (.int .u64 (add64 s (sub64 p.t p.f) : Nat))) Y' ∧ Y' = Y ∧ Var (w1.setCell ⟨W.heap.size + 1, 0, none⟩ (.int .u64 (add64 s (sub64 p.t p.f) : Nat))) W.heap.size (.bool (hasOne (a.take (n + 1)))) ∧ Var (w1.setCell ⟨W.heap.size + 1, 0, none⟩ (.int .u64 (add64 s (sub64 p.t p.f) : Nat))) (W.heap.size + 1) (.int .u64 (sumA (a.take (n + 1)) : Nat))) := fun w1 hb => by
      have t3 : Touch [W.heap.size, W.heap.size + 1] V (w1.setCell ⟨W.heap.size + 1, 0, none⟩ (.int .u64 (add64 s (sub64 p.t p.f) : Nat))) := ((HT2.out.mono (G := [W.heap.size, W.heap.size + 1]) (by simp)).trans (Touch.ofBelow (F := []) hb) (by simp)).set (.inl (by simp)) _
      refine ⟨Y, ⟨⟨_, t3, fun q hq => ?_⟩, fun q hq => ⟨Nat.lt_of_lt_of_le (by have := (HYS.out q hq).2; omega) t3.size, .inl hq⟩⟩, rfl, ?_, ?_⟩
      · simp at hq
        rcases hq with rfl | rfl
        · exact ⟨m1, hYF.out _ m1⟩
        · exact ⟨m2, hYF.out _ m2⟩
      · rw [HSB.out]
        exact (H1.out.touch (Touch.ofBelow (F := []) hb) (by simp)).other (by omega) _ _
      · rw [HST.out]
        exact (H2.out.touch (Touch.ofBelow (F := []) hb) (by simp)).set _
    obtain ⟨d0, d1, d2, d3⟩ := g5.cells
    have e0 := g2.val
    clear h1 h2 h5 hx hY hst hsb hs t2 g1 g2 g5
    gi_wp2
    rw [← HV2.out]
    clear hV2
    refine wpIn_region_any hmx ?_
    change wpAnyIn _ _ _ _ _ _ _ _ _ (World.drew _)
    refine wpAnyIn_ready (rs := [0, 1]) (by kernel_rfl) (by simp) ?_
    refine AllReadyIn.cons rfl (fun K hK => ?_) (AllReadyIn.cons rfl (fun K hK => ?_) AllReadyIn.nil)
    · go_simp
      refine hK _ _ ?_
      clear hK K
      refine wpAnyIn_ready (rs := [1]) (by kernel_rfl) (by simp) ?_
      refine AllReadyIn.cons rfl (fun K hK => ?_) AllReadyIn.nil
      go_simp
      refine hK _ _ ?_
      clear hK K
      refine wpAnyIn_ready (rs := [2]) (by kernel_rfl) (by simp) ?_
      refine AllReadyIn.cons rfl (fun K hK => ?_) AllReadyIn.nil
      go_simp
      refine hK _ _ ?_
      clear hK K
      refine wpAnyIn_ready (rs := [3]) (by kernel_rfl) (by simp) ?_
      refine AllReadyIn.cons rfl (fun K hK => ?_) AllReadyIn.nil
      go_simp
      gi_wp2_with (refine ⟨trivial, rfl, ?_⟩; gi_at_call 24; refine (CallsIn.inRound lp (callsIn_wide.2 (size_any p.f p.t _ hlt.1 hlt.2))).mono ?_; rintro e w1 ⟨rfl, hb1⟩; have HB1 : Hid (Below V2.heap.size V2 w1) := (Below.refl _ V2).drew.trans hb1; have hv1 := H2.out.touch (Touch.ofBelow (F := []) HB1.out) (by simp); have k1 := hv1.val; have f1 := hv1.free; clear hb1)
      try (refine hK _ _ ?_; clear hK K)
      refine wpAnyIn_ready (rs := [4]) (by kernel_rfl) (by simp) ?_
      refine AllReadyIn.cons rfl (fun K hK => ?_) AllReadyIn.nil
      go_simp
      refine hK _ _ ?_
      clear hK K
      refine wpAnyIn_ready (rs := [5]) (by kernel_rfl) (by simp) ?_
      refine AllReadyIn.cons rfl (fun K hK => ?_) AllReadyIn.nil
      go_simp
      refine hK _ _ ?_
      clear hK K
      refine wpAnyIn_done (by kernel_rfl) ?_ _
      gi_wp2
      exact HFIN.out _ HB1.out
    · go_simp
      refine hK _ _ ?_
      clear hK K
      refine wpAnyIn_ready (rs := [0, 2]) (by kernel_rfl) (by simp) ?_
      refine AllReadyIn.cons rfl (fun K hK => ?_) (AllReadyIn.cons rfl (fun K hK => ?_) AllReadyIn.nil)
      · go_simp
        refine hK _ _ ?_
        clear hK K
        refine wpAnyIn_ready (rs := [2]) (by kernel_rfl) (by simp) ?_
        refine AllReadyIn.cons rfl (fun K hK => ?_) AllReadyIn.nil
        go_simp
        refine hK _ _ ?_
        clear hK K
        refine wpAnyIn_ready (rs := [3]) (by kernel_rfl) (by simp) ?_
        refine AllReadyIn.cons rfl (fun K hK => ?_) AllReadyIn.nil
        go_simp
        gi_wp2_with (refine ⟨trivial, rfl, ?_⟩; gi_at_call 24; refine (CallsIn.inRound lp (callsIn_wide.2 (size_any p.f p.t _ hlt.1 hlt.2))).mono ?_; rintro e w1 ⟨rfl, hb1⟩; have HB1 : Hid (Below V2.heap.size V2 w1) := (Below.refl _ V2).drew.trans hb1; have hv1 := H2.out.touch (Touch.ofBelow (F := []) HB1.out) (by simp); have k1 := hv1.val; have f1 := hv1.free; clear hb1)
        try (refine hK _ _ ?_; clear hK K)
        refine wpAnyIn_ready (rs := [4]) (by kernel_rfl) (by simp) ?_
        refine AllReadyIn.cons rfl (fun K hK => ?_) AllReadyIn.nil
        go_simp
        refine hK _ _ ?_
        clear hK K
        refine wpAnyIn_ready (rs := [5]) (by kernel_rfl) (by simp) ?_
        refine AllReadyIn.cons rfl (fun K hK => ?_) AllReadyIn.nil
        go_simp
        refine hK _ _ ?_
        clear hK K
        refine wpAnyIn_done (by kernel_rfl) ?_ _
        gi_wp2
        exact HFIN.out _ HB1.out
      · go_simp
        refine hK _ _ ?_
        clear hK K
        refine wpAnyIn_ready (rs := [0, 3]) (by kernel_rfl) (by simp) ?_
        refine AllReadyIn.cons rfl (fun K hK => ?_) (AllReadyIn.cons rfl (fun K hK => ?_) AllReadyIn.nil)
        · go_simp
          refine hK _ _ ?_
          clear hK K
          refine wpAnyIn_ready (rs := [3]) (by kernel_rfl) (by simp) ?_
          refine AllReadyIn.cons rfl (fun K hK => ?_) AllReadyIn.nil
          go_simp
          gi_wp2_with (refine ⟨trivial, rfl, ?_⟩; gi_at_call 24; refine (CallsIn.inRound lp (callsIn_wide.2 (size_any p.f p.t _ hlt.1 hlt.2))).mono ?_; rintro e w1 ⟨rfl, hb1⟩; have HB1 : Hid (Below V2.heap.size V2 w1) := (Below.refl _ V2).drew.trans hb1; have hv1 := H2.out.touch (Touch.ofBelow (F := []) HB1.out) (by simp); have k1 := hv1.val; have f1 := hv1.free; clear hb1)
          try (refine hK _ _ ?_; clear hK K)
          refine wpAnyIn_ready (rs := [4]) (by kernel_rfl) (by simp) ?_
          refine AllReadyIn.cons rfl (fun K hK => ?_) AllReadyIn.nil
          go_simp
          refine hK _ _ ?_
          clear hK K
          refine wpAnyIn_ready (rs := [5]) (by kernel_rfl) (by simp) ?_
          refine AllReadyIn.cons rfl (fun K hK => ?_) AllReadyIn.nil
          go_simp
          refine hK _ _ ?_
          clear hK K
          refine wpAnyIn_done (by kernel_rfl) ?_ _
          gi_wp2
          exact HFIN.out _ HB1.out
        · go_simp
          gi_wp2_with (refine ⟨trivial, rfl, ?_⟩; gi_at_call 24; refine (CallsIn.inRound lp (callsIn_wide.2 (size_any p.f p.t _ hlt.1 hlt.2))).mono ?_; rintro e w1 ⟨rfl, hb1⟩; have HB1 : Hid (Below V2.heap.size V2 w1) := (Below.refl _ V2).drew.trans hb1; have hv1 := H2.out.touch (Touch.ofBelow (F := []) HB1.out) (by simp); have k1 := hv1.val; have f1 := hv1.free; clear hb1)
          try (refine hK _ _ ?_; clear hK K)
          refine wpAnyIn_ready (rs := [0]) (by kernel_rfl) (by simp) ?_
          refine AllReadyIn.cons rfl (fun K hK => ?_) AllReadyIn.nil
          go_simp
          refine hK _ _ ?_
          clear hK K
          refine wpAnyIn_ready (rs := [4]) (by kernel_rfl) (by simp) ?_
          refine AllReadyIn.cons rfl (fun K hK => ?_) AllReadyIn.nil
          go_simp
          refine hK _ _ ?_
          clear hK K
          refine wpAnyIn_ready (rs := [5]) (by kernel_rfl) (by simp) ?_
          refine AllReadyIn.cons rfl (fun K hK => ?_) AllReadyIn.nil
          go_simp
          refine hK _ _ ?_
          clear hK K
          refine wpAnyIn_done (by kernel_rfl) ?_ _
          gi_wp2
          exact HFIN.out _ HB1.out
  case done =>
    rintro D V Y hD hDn hL ⟨rfl, h1, h2⟩ hK
    have hB := Left.new HB.out hL (fun q hq => (HYS.out q hq).1)
    rw [List.take_length] at h1 h2
    have c1 := h1.val
    have c2 := h2.val
    have HK := Lib.hid hK
    have HD : Hid (Below W.heap.size W (V.putObj D (.deferred none))) := hB.trans (belowK_b (w := W) (Nat.le_refl _) V D _ _ (by omega) hK rfl rfl)
    have hfin : ∀ b, (b = true ↔ (hasOne a = true ∧ sumA a = 0)) → (b = true ↔ ∀ x, x < 18446744073709551616 → kn a x ≠ none) := fun b hb => by
      rw [hb, hasOne_iff]
      exact HRG.out
    have HFIN := Lib.hid hfin
    clear hB hL h1 h2 hfin
    cases hsb : hasOne a with
    | false =>
      rw [hsb] at c1
      gi_wp2
      refine ⟨by simp, .inl ⟨_, _, rfl, run_takeDeferred HK.out, ?_⟩⟩
      refine ⟨_, results_tmp rfl _ _ _, ⟨false, rfl, HFIN.out _ ?_⟩, HD.out⟩
      rw [hsb]
      simp
    | true =>
      rw [hsb] at c1
      cases hz : ((sumA a : Int) == 0) with
      | false =>
        have hz2 : sumA a ≠ 0 := fun e => by rw [e] at hz; cases hz
        gi_wp2
        refine ⟨by simp, .inl ⟨_, _, rfl, run_takeDeferred HK.out, ?_⟩⟩
        refine ⟨_, results_tmp rfl _ _ _, ⟨false, rfl, HFIN.out _ ?_⟩, HD.out⟩
        simp [hz2]
      | true =>
        have hz2 : sumA a = 0 := by have := of_decide_eq_true hz; omega
        gi_wp2
        refine ⟨by simp, .inl ⟨_, _, rfl, run_takeDeferred HK.out, ?_⟩⟩
        refine ⟨_, results_tmp rfl _ _ _, ⟨true, rfl, HFIN.out _ ?_⟩, HD.out⟩
        simp [hz2, hsb]
  case stop =>
    rintro D c V Y hD hDn hL h hK
    exact h.elim
end Go.Proofs.Ythjhfnbcfgkehaa
