/-
  All: the way through a bag, told to a closure.
-/
import Derived.Test.YtokgamagiffaeaaBagBegin
namespace Go.Proofs.Ytokgamagiffaeaa
open Go.RowKit

attribute [local go_sem] Oper.semAt_some

/-- the call that makes it -/
theorem bagAll_any (p : Option Addr) (W : World) : Calls Try.prog 15 #[.pointer p] W fun e w' =>
    e = .returned (.func (.func 21) #[] #[.pointer (some ⟨W.heap.size, 0, none⟩)]) ∧ w' = W.alloc (.cells #[.pointer p] 23) := by
  go_enter Try.func15, Try.ntmps15
  go_wp2_with fail
  go_ret
  exact ⟨rfl, rfl⟩
/-- how the body of that range is left -/
def allOut (B Y : List Nat) (W V : World) (J : Nat → World → List Nat → Prop) (Q : World → List Nat → Prop) (y0 : Nat) (Y0 : List Nat) (fn : Value) (n : Nat) : Bool → World → Prop
  | true, w2 => ∃ Y', Left B Y V w2 Y' ∧ ∃ Yo, Y' = [y0] ++ Yo ∧ (∀ q ∈ Yo, (q ∈ Y0 ∨ W.heap.size ≤ q) ∧ q ≠ y0) ∧ J (n + 1) w2 Yo ∧ w2.cell? ⟨y0, 0, none⟩ = some fn
  | false, w2 => ∃ Y', Left B Y V w2 Y' ∧ ∃ Yo, Y' = [y0] ++ Yo ∧ (∀ q ∈ Yo, q ∈ Y0 ∨ W.heap.size ≤ q) ∧ Code.ret = .ret ∧ Q w2 Yo

set_option maxRecDepth 100000 in
set_option maxHeartbeats 8000000 in
theorem allTour {W : World} {g m : Nat} {ps : List Pk} {F : List Nat} (h : BG W g m ps F) {b : Nat} (hc : W.cell? ⟨b, 0, none⟩ = some (.pointer (some ⟨g, 0, none⟩))) (y : Nat) (yf yc : Array Value) (hi : ∀ a w, (callFunc y a).run Try.prog w = .ok (.enter y a) w)
    (J : Nat → World → List Nat → Prop) (Q : World → List Nat → Prop) (Y0 : List Nat) (hY0 : ∀ q ∈ Y0, q < W.heap.size) (h0 : J 0 W Y0) (hJ : ∀ n, Abid (J n)) (hQ : Abid Q)
    (hR : ∀ n x w Y, ps.zipIdx[n]? = some x → J n w Y → (∀ q ∈ Y, q < w.heap.size) → Calls Try.prog y (yf ++ #[.int .i64 (x.2 : Nat), .agg x.1.cells] ++ yc) w fun e w' =>
      ∃ Y', Left [] Y w w' Y' ∧ ((e = .returned (.bool true) ∧ J (n + 1) w' Y') ∨ (e = .returned (.bool false) ∧ Q w' Y'))) :
    Calls Try.prog 21 #[.func (.func y) yf yc, .pointer (some ⟨b, 0, none⟩)] W fun e w' => e = .returned (.tuple #[]) ∧ ∃ Y, Left [] Y0 W w' Y ∧ (J ps.length w' Y ∨ Q w' Y) := by
  have HBG := Lib.hid h
  have H0 := Lib.hid h0
  have HJ := Lib.hid hJ
  have HR := Lib.hid hR
  have HY0 := Lib.hid hY0
  have HQ := Lib.hid hQ
  clear h h0 hJ hR hY0 hQ
  have hne : ∀ w, (binOp .eql 46 (.func (.func y) yf yc) .nilFunc).run Try.prog w = .ok (.bool false) w := fun w => run_eql_func w _ _ _ _ Try.underlying46
  have c0 : ∀ o, (W.alloc o).cell? ⟨b, 0, none⟩ = some (.pointer (some ⟨g, 0, none⟩)) := fun o => (((Below.refl W.heap.size W).alloc (Nat.le_refl _) o).cell (p := ⟨b, 0, none⟩) (World.block_lt_of_cell? W _ hc)).trans hc
  refine (callsIn_wide (n := 0)).1 (callsIn_of_wp_marks Try.func21 rfl trivial ?_ rfl)
  simp only [Try.ntmps21, List.size_toArray, List.length_cons, List.length_nil, Nat.reduceAdd, Nat.reduceSub, Array.replicate_succ, Array.replicate_zero, List.push_toArray, List.append_toArray, List.nil_append, List.cons_append]
  gi_wp2_with (refine ⟨trivial, rfl, ?_⟩; gi_at_call 22; refine (callsIn_wide.2 (kept_any _ _)).mono ?_; rintro e w' ⟨rfl, rfl⟩)
  have cy : ((W.alloc (.cells #[.func (.func y) yf yc] 46)).alloc (.cells #[.pointer (some ⟨g, 0, none⟩)] 23)).cell? ⟨W.heap.size, 0, none⟩ = some (.func (.func y) yf yc) := by go_simp
  have ca : ((W.alloc (.cells #[.func (.func y) yf yc] 46)).alloc (.cells #[.pointer (some ⟨g, 0, none⟩)] 23)).cell? ⟨W.heap.size + 1, 0, none⟩ = some (.pointer (some ⟨g, 0, none⟩)) := by go_simp
  have b2 : Below W.heap.size W ((W.alloc (.cells #[.func (.func y) yf yc] 46)).alloc (.cells #[.pointer (some ⟨g, 0, none⟩)] 23)) := ((Below.refl _ W).alloc (Nat.le_refl _) _).alloc (by simp) _
  have z2 : ((W.alloc (.cells #[.func (.func y) yf yc] 46)).alloc (.cells #[.pointer (some ⟨g, 0, none⟩)] 23)).heap.size = W.heap.size + 2 := by simp
  generalize ((W.alloc (.cells #[.func (.func y) yf yc] 46)).alloc (.cells #[.pointer (some ⟨g, 0, none⟩)] 23)) = W2 at *
  have HB := Lib.hid b2
  have HCA := Lib.hid ca
  obtain ⟨y0, hy0⟩ : ∃ y0, y0 = W.heap.size := ⟨_, rfl⟩
  have hmx : Try.prog.follows .mixedOrders = true := by kernel_rfl
  have hszq : (Try.prog.info? 38).map (·.size) = some 25 := bg_infoP
  refine wp_seqA (α := Pk × Nat) (enc := encP) (gf := 24) (lb := #[.pointer (some ⟨W.heap.size + 1, 0, none⟩)]) rfl (enters_of Try.func24 (by kernel_rfl) rfl) (xs := ps.zipIdx) (B := [])
    (fun V hV => keptWay (HBG.out.below (HB.out.trans (hV.mono (by omega)))) ((hV.cell (p := ⟨W.heap.size + 1, 0, none⟩) (by simp [z2])).trans HCA.out) []) (by simp) (fun _ => rfl)
    (fun n V Y => ∃ Yo, Y = [y0] ++ Yo ∧ (∀ q ∈ Yo, (q ∈ Y0 ∨ W.heap.size ≤ q) ∧ q ≠ y0) ∧ J n V Yo ∧ V.cell? ⟨y0, 0, none⟩ = some (.func (.func y) yf yc))
    (fun c V Y => ∃ Yo, Y = [y0] ++ Yo ∧ (∀ q ∈ Yo, q ∈ Y0 ∨ W.heap.size ≤ q) ∧ c = .ret ∧ Q V Yo)
    ([y0] ++ Y0)
    (fun q hq => by
      rcases List.mem_append.1 hq with z | z
      · simp at z; omega
      · have := HY0.out q z; omega)
    ⟨Y0, rfl, fun q hq => ⟨.inl hq, by have := HY0.out q hq; omega⟩, HJ.out 0 W W2 Y0 [] H0.out (Touch.ofBelow b2) (by simp), by rw [hy0]; exact cy⟩
    (by
      rintro n V V1 Y G ⟨Yo, rfl, h1, h2, h3⟩ tt hn
      exact ⟨Yo, rfl, h1, HJ.out _ V V1 Yo G h2 tt (fun q hq => hn q (List.mem_append_right _ hq)), (tt.cell (World.block_lt_of_cell? V _ h3) (hn _ (by simp))).trans h3⟩)
    (by
      rintro c V V1 Y G ⟨Yo, rfl, h1, h2, h3⟩ tt hn
      exact ⟨Yo, rfl, h1, h2, HQ.out V V1 Yo G h3 tt (fun q hq => hn q (List.mem_append_right _ hq))⟩)
    (fun n W0 x a1 V => V.heap[W0.heap.size]? = some (.cells x.1.cells 38) ∧ a1 = { tmps := #[.func (.func y) yf yc, .pointer (some ⟨b, 0, none⟩), .pointer (some ⟨W.heap.size, 0, none⟩), .int .i64 (x.2 : Nat), .pointer (some ⟨W0.heap.size, 0, none⟩), .pointer (some ⟨g, 0, none⟩), .func (.func 24) #[] #[.pointer (some ⟨W.heap.size + 1, 0, none⟩)], .int .i64 (x.2 : Nat), .agg x.1.cells, undef, undef, undef, undef, undef, undef, undef, undef, undef, undef], defers := [] })
    (by
      rintro n V x a1 V1 V2 G ⟨h1, h2⟩ tt hG
      exact ⟨(tt.block _ (bg_lt h1) (fun z => Nat.lt_irrefl _ (hG _ z))).trans h1, h2⟩)
    ?assign ?body ?done ?stop
  case assign =>
    rintro l n ⟨p, i⟩ V K hx hK
    have hszp : (Try.prog.info? 38).map (·.size) = some p.cells.size := hszq
    have hold : Pk.zero.cells.size = p.cells.size := rfl
    have hone := p.one
    have HKK := Lib.hid (hK _ _ (bg_new V Pk.zero.cells p.cells 38) ⟨bg_row _ (heap_alloc_new V _), rfl⟩)
    clear hK hx
    gi_wp2_with (with_reducible (show wpListIn _ _ _ _ _ (⟨none, Op.store _ (Operand.tmp 4) _, _, _, _, _⟩ :: _) _ _); go_must (refine wpListIn_store_row rfl 38 (.tmp 4) (.tmp 8) rfl V.heap.size p.cells rfl rfl 38 Pk.zero.cells (heap_alloc_new V _) hszp hold hone ?_))
    exact HKK.out
  case body =>
    rintro lp n ⟨p, i⟩ W0 V a1 Y hW0 hV hx ⟨Yo, rfl, h1, h2, h3⟩ hY ⟨h4, rfl⟩
    have hszp : (Try.prog.info? 38).map (·.size) = some p.cells.size := hszq
    rw [hy0] at h3
    have HLY : Hid (W.heap.size < V.heap.size) := World.block_lt_of_cell? V _ h3
    have CYV := Lib.hid h3
    have cyd : V.drew.cell? ⟨W.heap.size, 0, none⟩ = some (.func (.func y) yf yc) := h3
    have HRV : Hid (V.drew.heap[W0.heap.size]? = some (.cells p.cells 38)) := h4
    have HCY : Hid (∀ w1, Below V.heap.size V w1 → Calls Try.prog y (yf ++ #[.int .i64 (i : Nat), .agg p.cells] ++ yc) w1 fun e w2 => ∃ bb, e = .returned (.bool bb) ∧ allOut [] ([y0] ++ Yo) W V J Q y0 Y0 (.func (.func y) yf yc) n bb w2) := fun w1 hb => by
      have hYo : ∀ q ∈ Yo, q < w1.heap.size := fun q hq => by have := hY q (List.mem_append_right _ hq); have := hb.size; omega
      refine (HR.out n (p, i) w1 Yo hx (HJ.out n V w1 Yo [] h2 (Touch.ofBelow hb) (by simp)) hYo).mono ?_
      rintro e w2 ⟨Y2, hL, hh⟩
      have hLV : Left [] Yo V w2 Y2 := Left.after hb hL
      have hM := hLV.more (Z := [y0]) (by intro q hq; simp at hq; subst hq; rw [hy0]; exact HLY.out)
      have hny : ∀ q ∈ Y2, (q ∈ Y0 ∨ W.heap.size ≤ q) ∧ q ≠ y0 := fun q hq => by
        rcases (hLV.2 q hq).2 with z | z
        · exact h1 q z
        · have := HLY.out; exact ⟨.inr (by omega), by omega⟩
      rcases hh with ⟨rfl, hj⟩ | ⟨rfl, hq⟩
      · exact ⟨true, rfl, _, hM, Y2, rfl, hny, hj, by rw [hy0]; exact (hLV.cell (p := ⟨W.heap.size, 0, none⟩) CYV.out (fun z => (h1 _ z).2 hy0.symm)).1⟩
      · exact ⟨false, rfl, _, hM, Y2, rfl, fun q hq => (hny q hq).1, rfl, hq⟩
    rw [Array.append_assoc] at HCY
    clear h1 h2 h3 h4 hx hY HR HJ HQ H0 HBG HB HCA cy ca b2
    gi_wp2
    refine wpIn_region_any hmx ?_
    change wpAnyIn _ _ _ _ _ _ _ _ _ (World.drew _)
    refine wpAnyIn_ready (rs := [0]) (by kernel_rfl) (by simp) ?_
    refine AllReadyIn.cons rfl (fun K hK => ?_) AllReadyIn.nil
    go_simp
    refine hK _ _ ?_
    clear hK K
    refine wpAnyIn_ready (rs := [1]) (by kernel_rfl) (by simp) ?_
    refine AllReadyIn.cons rfl (fun K hK => ?_) AllReadyIn.nil
    go_simp
    refine hK _ _ ?_
    clear hK K
    refine wpAnyIn_ready (rs := [2]) (by kernel_rfl) (by simp) ?_
    refine AllReadyIn.cons rfl (fun K hK => ?_) AllReadyIn.nil
    go_simp
    refine hK _ _ ?_
    clear hK K
    refine wpAnyIn_ready (rs := [3, 4, 5]) (by kernel_rfl) (by simp) ?_
    refine AllReadyIn.cons rfl (fun K hK => ?_) (AllReadyIn.cons rfl (fun K hK => ?_) (AllReadyIn.cons rfl (fun K hK => ?_) AllReadyIn.nil))
    · go_simp
      refine hK _ _ ?_
      clear hK K
      refine wpAnyIn_ready (rs := [4, 5]) (by kernel_rfl) (by simp) ?_
      refine AllReadyIn.cons rfl (fun K hK => ?_) (AllReadyIn.cons rfl (fun K hK => ?_) AllReadyIn.nil)
      · go_simp
        refine hK _ _ ?_
        clear hK K
        refine wpAnyIn_ready (rs := [5]) (by kernel_rfl) (by simp) ?_
        refine AllReadyIn.cons rfl (fun K hK => ?_) AllReadyIn.nil
        refine stepIn_load_row (by first | rfl | simp [Region.wanted, yielded] | kernel_rfl) 38 (.tmp 4) rfl W0.heap.size rfl 38 p.cells (0, 0) _ HRV.out Try.underlying38 rfl hszp ?_
        refine hK _ _ ?_
        clear hK K
        refine wpAnyIn_ready (rs := [6]) (by kernel_rfl) (by simp) ?_
        refine AllReadyIn.cons rfl (fun K hK => ?_) AllReadyIn.nil
        go_simp
        gi_wp2_with (refine ⟨trivial, rfl, ?_⟩; gi_at_call 18; refine (CallsIn.inRound lp (callsIn_wide.2 (own_any p _))).mono ?_; rintro e w1 ⟨rfl, hb1⟩; have HB1 : Hid (Below V.heap.size V w1) := (Below.refl _ V).drew.trans hb1; have cy1 := (HB1.out.cell (p := ⟨W.heap.size, 0, none⟩) HLY.out).trans CYV.out; clear hb1)
        try (refine hK _ _ ?_; clear hK K)
        refine wpAnyIn_ready (rs := [7]) (by kernel_rfl) (by simp) ?_
        refine AllReadyIn.cons rfl (fun K hK => ?_) AllReadyIn.nil
        go_simp
        refine ⟨trivial, rfl, ?_⟩
        refine (CallsIn.inRound lp (callsIn_wide.2 (HCY.out w1 HB1.out))).mono ?_
        rintro e w2 ⟨bb, rfl, hpost⟩
        have HPO := Lib.hid hpost
        clear hpost
        try (refine hK _ _ ?_; clear hK K)
        refine wpAnyIn_ready (rs := [8]) (by kernel_rfl) (by simp) ?_
        refine AllReadyIn.cons rfl (fun K hK => ?_) AllReadyIn.nil
        go_simp
        refine hK _ _ ?_
        clear hK K
        refine wpAnyIn_ready (rs := [9]) (by kernel_rfl) (by simp) ?_
        refine AllReadyIn.cons rfl (fun K hK => ?_) AllReadyIn.nil
        go_simp
        refine hK _ _ ?_
        clear hK K
        refine wpAnyIn_done (by kernel_rfl) ?_ _
        cases bb
        · gi_wp2
          exact HPO.out
        · gi_wp2
          exact HPO.out
      · refine stepIn_load_row (by first | rfl | simp [Region.wanted, yielded] | kernel_rfl) 38 (.tmp 4) rfl W0.heap.size rfl 38 p.cells (0, 0) _ HRV.out Try.underlying38 rfl hszp ?_
        refine hK _ _ ?_
        clear hK K
        refine wpAnyIn_ready (rs := [4, 6]) (by kernel_rfl) (by simp) ?_
        refine AllReadyIn.cons rfl (fun K hK => ?_) (AllReadyIn.cons rfl (fun K hK => ?_) AllReadyIn.nil)
        · go_simp
          refine hK _ _ ?_
          clear hK K
          refine wpAnyIn_ready (rs := [6]) (by kernel_rfl) (by simp) ?_
          refine AllReadyIn.cons rfl (fun K hK => ?_) AllReadyIn.nil
          go_simp
          gi_wp2_with (refine ⟨trivial, rfl, ?_⟩; gi_at_call 18; refine (CallsIn.inRound lp (callsIn_wide.2 (own_any p _))).mono ?_; rintro e w1 ⟨rfl, hb1⟩; have HB1 : Hid (Below V.heap.size V w1) := (Below.refl _ V).drew.trans hb1; have cy1 := (HB1.out.cell (p := ⟨W.heap.size, 0, none⟩) HLY.out).trans CYV.out; clear hb1)
          try (refine hK _ _ ?_; clear hK K)
          refine wpAnyIn_ready (rs := [7]) (by kernel_rfl) (by simp) ?_
          refine AllReadyIn.cons rfl (fun K hK => ?_) AllReadyIn.nil
          go_simp
          refine ⟨trivial, rfl, ?_⟩
          refine (CallsIn.inRound lp (callsIn_wide.2 (HCY.out w1 HB1.out))).mono ?_
          rintro e w2 ⟨bb, rfl, hpost⟩
          have HPO := Lib.hid hpost
          clear hpost
          try (refine hK _ _ ?_; clear hK K)
          refine wpAnyIn_ready (rs := [8]) (by kernel_rfl) (by simp) ?_
          refine AllReadyIn.cons rfl (fun K hK => ?_) AllReadyIn.nil
          go_simp
          refine hK _ _ ?_
          clear hK K
          refine wpAnyIn_ready (rs := [9]) (by kernel_rfl) (by simp) ?_
          refine AllReadyIn.cons rfl (fun K hK => ?_) AllReadyIn.nil
          go_simp
          refine hK _ _ ?_
          clear hK K
          refine wpAnyIn_done (by kernel_rfl) ?_ _
          cases bb
          · gi_wp2
            exact HPO.out
          · gi_wp2
            exact HPO.out
        · go_simp
          gi_wp2_with (refine ⟨trivial, rfl, ?_⟩; gi_at_call 18; refine (CallsIn.inRound lp (callsIn_wide.2 (own_any p _))).mono ?_; rintro e w1 ⟨rfl, hb1⟩; have HB1 : Hid (Below V.heap.size V w1) := (Below.refl _ V).drew.trans hb1; have cy1 := (HB1.out.cell (p := ⟨W.heap.size, 0, none⟩) HLY.out).trans CYV.out; clear hb1)
          try (refine hK _ _ ?_; clear hK K)
          refine wpAnyIn_ready (rs := [4]) (by kernel_rfl) (by simp) ?_
          refine AllReadyIn.cons rfl (fun K hK => ?_) AllReadyIn.nil
          go_simp
          refine hK _ _ ?_
          clear hK K
          refine wpAnyIn_ready (rs := [7]) (by kernel_rfl) (by simp) ?_
          refine AllReadyIn.cons rfl (fun K hK => ?_) AllReadyIn.nil
          go_simp
          refine ⟨trivial, rfl, ?_⟩
          refine (CallsIn.inRound lp (callsIn_wide.2 (HCY.out w1 HB1.out))).mono ?_
          rintro e w2 ⟨bb, rfl, hpost⟩
          have HPO := Lib.hid hpost
          clear hpost
          try (refine hK _ _ ?_; clear hK K)
          refine wpAnyIn_ready (rs := [8]) (by kernel_rfl) (by simp) ?_
          refine AllReadyIn.cons rfl (fun K hK => ?_) AllReadyIn.nil
          go_simp
          refine hK _ _ ?_
          clear hK K
          refine wpAnyIn_ready (rs := [9]) (by kernel_rfl) (by simp) ?_
          refine AllReadyIn.cons rfl (fun K hK => ?_) AllReadyIn.nil
          go_simp
          refine hK _ _ ?_
          clear hK K
          refine wpAnyIn_done (by kernel_rfl) ?_ _
          cases bb
          · gi_wp2
            exact HPO.out
          · gi_wp2
            exact HPO.out
    · go_simp
      refine hK _ _ ?_
      clear hK K
      refine wpAnyIn_ready (rs := [3, 5]) (by kernel_rfl) (by simp) ?_
      refine AllReadyIn.cons rfl (fun K hK => ?_) (AllReadyIn.cons rfl (fun K hK => ?_) AllReadyIn.nil)
      · go_simp
        refine hK _ _ ?_
        clear hK K
        refine wpAnyIn_ready (rs := [5]) (by kernel_rfl) (by simp) ?_
        refine AllReadyIn.cons rfl (fun K hK => ?_) AllReadyIn.nil
        refine stepIn_load_row (by first | rfl | simp [Region.wanted, yielded] | kernel_rfl) 38 (.tmp 4) rfl W0.heap.size rfl 38 p.cells (0, 0) _ HRV.out Try.underlying38 rfl hszp ?_
        refine hK _ _ ?_
        clear hK K
        refine wpAnyIn_ready (rs := [6]) (by kernel_rfl) (by simp) ?_
        refine AllReadyIn.cons rfl (fun K hK => ?_) AllReadyIn.nil
        go_simp
        gi_wp2_with (refine ⟨trivial, rfl, ?_⟩; gi_at_call 18; refine (CallsIn.inRound lp (callsIn_wide.2 (own_any p _))).mono ?_; rintro e w1 ⟨rfl, hb1⟩; have HB1 : Hid (Below V.heap.size V w1) := (Below.refl _ V).drew.trans hb1; have cy1 := (HB1.out.cell (p := ⟨W.heap.size, 0, none⟩) HLY.out).trans CYV.out; clear hb1)
        try (refine hK _ _ ?_; clear hK K)
        refine wpAnyIn_ready (rs := [7]) (by kernel_rfl) (by simp) ?_
        refine AllReadyIn.cons rfl (fun K hK => ?_) AllReadyIn.nil
        go_simp
        refine ⟨trivial, rfl, ?_⟩
        refine (CallsIn.inRound lp (callsIn_wide.2 (HCY.out w1 HB1.out))).mono ?_
        rintro e w2 ⟨bb, rfl, hpost⟩
        have HPO := Lib.hid hpost
        clear hpost
        try (refine hK _ _ ?_; clear hK K)
        refine wpAnyIn_ready (rs := [8]) (by kernel_rfl) (by simp) ?_
        refine AllReadyIn.cons rfl (fun K hK => ?_) AllReadyIn.nil
        go_simp
        refine hK _ _ ?_
        clear hK K
        refine wpAnyIn_ready (rs := [9]) (by kernel_rfl) (by simp) ?_
        refine AllReadyIn.cons rfl (fun K hK => ?_) AllReadyIn.nil
        go_simp
        refine hK _ _ ?_
        clear hK K
        refine wpAnyIn_done (by kernel_rfl) ?_ _
        cases bb
        · gi_wp2
          exact HPO.out
        · gi_wp2
          exact HPO.out
      · refine stepIn_load_row (by first | rfl | simp [Region.wanted, yielded] | kernel_rfl) 38 (.tmp 4) rfl W0.heap.size rfl 38 p.cells (0, 0) _ HRV.out Try.underlying38 rfl hszp ?_
        refine hK _ _ ?_
        clear hK K
        refine wpAnyIn_ready (rs := [3, 6]) (by kernel_rfl) (by simp) ?_
        refine AllReadyIn.cons rfl (fun K hK => ?_) (AllReadyIn.cons rfl (fun K hK => ?_) AllReadyIn.nil)
        · go_simp
          refine hK _ _ ?_
          clear hK K
          refine wpAnyIn_ready (rs := [6]) (by kernel_rfl) (by simp) ?_
          refine AllReadyIn.cons rfl (fun K hK => ?_) AllReadyIn.nil
          go_simp
          gi_wp2_with (refine ⟨trivial, rfl, ?_⟩; gi_at_call 18; refine (CallsIn.inRound lp (callsIn_wide.2 (own_any p _))).mono ?_; rintro e w1 ⟨rfl, hb1⟩; have HB1 : Hid (Below V.heap.size V w1) := (Below.refl _ V).drew.trans hb1; have cy1 := (HB1.out.cell (p := ⟨W.heap.size, 0, none⟩) HLY.out).trans CYV.out; clear hb1)
          try (refine hK _ _ ?_; clear hK K)
          refine wpAnyIn_ready (rs := [7]) (by kernel_rfl) (by simp) ?_
          refine AllReadyIn.cons rfl (fun K hK => ?_) AllReadyIn.nil
          go_simp
          refine ⟨trivial, rfl, ?_⟩
          refine (CallsIn.inRound lp (callsIn_wide.2 (HCY.out w1 HB1.out))).mono ?_
          rintro e w2 ⟨bb, rfl, hpost⟩
          have HPO := Lib.hid hpost
          clear hpost
          try (refine hK _ _ ?_; clear hK K)
          refine wpAnyIn_ready (rs := [8]) (by kernel_rfl) (by simp) ?_
          refine AllReadyIn.cons rfl (fun K hK => ?_) AllReadyIn.nil
          go_simp
          refine hK _ _ ?_
          clear hK K
          refine wpAnyIn_ready (rs := [9]) (by kernel_rfl) (by simp) ?_
          refine AllReadyIn.cons rfl (fun K hK => ?_) AllReadyIn.nil
          go_simp
          refine hK _ _ ?_
          clear hK K
          refine wpAnyIn_done (by kernel_rfl) ?_ _
          cases bb
          · gi_wp2
            exact HPO.out
          · gi_wp2
            exact HPO.out
        · go_simp
          gi_wp2_with (refine ⟨trivial, rfl, ?_⟩; gi_at_call 18; refine (CallsIn.inRound lp (callsIn_wide.2 (own_any p _))).mono ?_; rintro e w1 ⟨rfl, hb1⟩; have HB1 : Hid (Below V.heap.size V w1) := (Below.refl _ V).drew.trans hb1; have cy1 := (HB1.out.cell (p := ⟨W.heap.size, 0, none⟩) HLY.out).trans CYV.out; clear hb1)
          try (refine hK _ _ ?_; clear hK K)
          refine wpAnyIn_ready (rs := [3]) (by kernel_rfl) (by simp) ?_
          refine AllReadyIn.cons rfl (fun K hK => ?_) AllReadyIn.nil
          go_simp
          refine hK _ _ ?_
          clear hK K
          refine wpAnyIn_ready (rs := [7]) (by kernel_rfl) (by simp) ?_
          refine AllReadyIn.cons rfl (fun K hK => ?_) AllReadyIn.nil
          go_simp
          refine ⟨trivial, rfl, ?_⟩
          refine (CallsIn.inRound lp (callsIn_wide.2 (HCY.out w1 HB1.out))).mono ?_
          rintro e w2 ⟨bb, rfl, hpost⟩
          have HPO := Lib.hid hpost
          clear hpost
          try (refine hK _ _ ?_; clear hK K)
          refine wpAnyIn_ready (rs := [8]) (by kernel_rfl) (by simp) ?_
          refine AllReadyIn.cons rfl (fun K hK => ?_) AllReadyIn.nil
          go_simp
          refine hK _ _ ?_
          clear hK K
          refine wpAnyIn_ready (rs := [9]) (by kernel_rfl) (by simp) ?_
          refine AllReadyIn.cons rfl (fun K hK => ?_) AllReadyIn.nil
          go_simp
          refine hK _ _ ?_
          clear hK K
          refine wpAnyIn_done (by kernel_rfl) ?_ _
          cases bb
          · gi_wp2
            exact HPO.out
          · gi_wp2
            exact HPO.out
    · refine stepIn_load_row (by first | rfl | simp [Region.wanted, yielded] | kernel_rfl) 38 (.tmp 4) rfl W0.heap.size rfl 38 p.cells (0, 0) _ HRV.out Try.underlying38 rfl hszp ?_
      refine hK _ _ ?_
      clear hK K
      refine wpAnyIn_ready (rs := [3, 4, 6]) (by kernel_rfl) (by simp) ?_
      refine AllReadyIn.cons rfl (fun K hK => ?_) (AllReadyIn.cons rfl (fun K hK => ?_) (AllReadyIn.cons rfl (fun K hK => ?_) AllReadyIn.nil))
      · go_simp
        refine hK _ _ ?_
        clear hK K
        refine wpAnyIn_ready (rs := [4, 6]) (by kernel_rfl) (by simp) ?_
        refine AllReadyIn.cons rfl (fun K hK => ?_) (AllReadyIn.cons rfl (fun K hK => ?_) AllReadyIn.nil)
        · go_simp
          refine hK _ _ ?_
          clear hK K
          refine wpAnyIn_ready (rs := [6]) (by kernel_rfl) (by simp) ?_
          refine AllReadyIn.cons rfl (fun K hK => ?_) AllReadyIn.nil
          go_simp
          gi_wp2_with (refine ⟨trivial, rfl, ?_⟩; gi_at_call 18; refine (CallsIn.inRound lp (callsIn_wide.2 (own_any p _))).mono ?_; rintro e w1 ⟨rfl, hb1⟩; have HB1 : Hid (Below V.heap.size V w1) := (Below.refl _ V).drew.trans hb1; have cy1 := (HB1.out.cell (p := ⟨W.heap.size, 0, none⟩) HLY.out).trans CYV.out; clear hb1)
          try (refine hK _ _ ?_; clear hK K)
          refine wpAnyIn_ready (rs := [7]) (by kernel_rfl) (by simp) ?_
          refine AllReadyIn.cons rfl (fun K hK => ?_) AllReadyIn.nil
          go_simp
          refine ⟨trivial, rfl, ?_⟩
          refine (CallsIn.inRound lp (callsIn_wide.2 (HCY.out w1 HB1.out))).mono ?_
          rintro e w2 ⟨bb, rfl, hpost⟩
          have HPO := Lib.hid hpost
          clear hpost
          try (refine hK _ _ ?_; clear hK K)
          refine wpAnyIn_ready (rs := [8]) (by kernel_rfl) (by simp) ?_
          refine AllReadyIn.cons rfl (fun K hK => ?_) AllReadyIn.nil
          go_simp
          refine hK _ _ ?_
          clear hK K
          refine wpAnyIn_ready (rs := [9]) (by kernel_rfl) (by simp) ?_
          refine AllReadyIn.cons rfl (fun K hK => ?_) AllReadyIn.nil
          go_simp
          refine hK _ _ ?_
          clear hK K
          refine wpAnyIn_done (by kernel_rfl) ?_ _
          cases bb
          · gi_wp2
            exact HPO.out
          · gi_wp2
            exact HPO.out
        · go_simp
          gi_wp2_with (refine ⟨trivial, rfl, ?_⟩; gi_at_call 18; refine (CallsIn.inRound lp (callsIn_wide.2 (own_any p _))).mono ?_; rintro e w1 ⟨rfl, hb1⟩; have HB1 : Hid (Below V.heap.size V w1) := (Below.refl _ V).drew.trans hb1; have cy1 := (HB1.out.cell (p := ⟨W.heap.size, 0, none⟩) HLY.out).trans CYV.out; clear hb1)
          try (refine hK _ _ ?_; clear hK K)
          refine wpAnyIn_ready (rs := [4]) (by kernel_rfl) (by simp) ?_
          refine AllReadyIn.cons rfl (fun K hK => ?_) AllReadyIn.nil
          go_simp
          refine hK _ _ ?_
          clear hK K
          refine wpAnyIn_ready (rs := [7]) (by kernel_rfl) (by simp) ?_
          refine AllReadyIn.cons rfl (fun K hK => ?_) AllReadyIn.nil
          go_simp
          refine ⟨trivial, rfl, ?_⟩
          refine (CallsIn.inRound lp (callsIn_wide.2 (HCY.out w1 HB1.out))).mono ?_
          rintro e w2 ⟨bb, rfl, hpost⟩
          have HPO := Lib.hid hpost
          clear hpost
          try (refine hK _ _ ?_; clear hK K)
          refine wpAnyIn_ready (rs := [8]) (by kernel_rfl) (by simp) ?_
          refine AllReadyIn.cons rfl (fun K hK => ?_) AllReadyIn.nil
          go_simp
          refine hK _ _ ?_
          clear hK K
          refine wpAnyIn_ready (rs := [9]) (by kernel_rfl) (by simp) ?_
          refine AllReadyIn.cons rfl (fun K hK => ?_) AllReadyIn.nil
          go_simp
          refine hK _ _ ?_
          clear hK K
          refine wpAnyIn_done (by kernel_rfl) ?_ _
          cases bb
          · gi_wp2
            exact HPO.out
          · gi_wp2
            exact HPO.out
      · go_simp
        refine hK _ _ ?_
        clear hK K
        refine wpAnyIn_ready (rs := [3, 6]) (by kernel_rfl) (by simp) ?_
        refine AllReadyIn.cons rfl (fun K hK => ?_) (AllReadyIn.cons rfl (fun K hK => ?_) AllReadyIn.nil)
        · go_simp
          refine hK _ _ ?_
          clear hK K
          refine wpAnyIn_ready (rs := [6]) (by kernel_rfl) (by simp) ?_
          refine AllReadyIn.cons rfl (fun K hK => ?_) AllReadyIn.nil
          go_simp
          gi_wp2_with (refine ⟨trivial, rfl, ?_⟩; gi_at_call 18; refine (CallsIn.inRound lp (callsIn_wide.2 (own_any p _))).mono ?_; rintro e w1 ⟨rfl, hb1⟩; have HB1 : Hid (Below V.heap.size V w1) := (Below.refl _ V).drew.trans hb1; have cy1 := (HB1.out.cell (p := ⟨W.heap.size, 0, none⟩) HLY.out).trans CYV.out; clear hb1)
          try (refine hK _ _ ?_; clear hK K)
          refine wpAnyIn_ready (rs := [7]) (by kernel_rfl) (by simp) ?_
          refine AllReadyIn.cons rfl (fun K hK => ?_) AllReadyIn.nil
          go_simp
          refine ⟨trivial, rfl, ?_⟩
          refine (CallsIn.inRound lp (callsIn_wide.2 (HCY.out w1 HB1.out))).mono ?_
          rintro e w2 ⟨bb, rfl, hpost⟩
          have HPO := Lib.hid hpost
          clear hpost
          try (refine hK _ _ ?_; clear hK K)
          refine wpAnyIn_ready (rs := [8]) (by kernel_rfl) (by simp) ?_
          refine AllReadyIn.cons rfl (fun K hK => ?_) AllReadyIn.nil
          go_simp
          refine hK _ _ ?_
          clear hK K
          refine wpAnyIn_ready (rs := [9]) (by kernel_rfl) (by simp) ?_
          refine AllReadyIn.cons rfl (fun K hK => ?_) AllReadyIn.nil
          go_simp
          refine hK _ _ ?_
          clear hK K
          refine wpAnyIn_done (by kernel_rfl) ?_ _
          cases bb
          · gi_wp2
            exact HPO.out
          · gi_wp2
            exact HPO.out
        · go_simp
          gi_wp2_with (refine ⟨trivial, rfl, ?_⟩; gi_at_call 18; refine (CallsIn.inRound lp (callsIn_wide.2 (own_any p _))).mono ?_; rintro e w1 ⟨rfl, hb1⟩; have HB1 : Hid (Below V.heap.size V w1) := (Below.refl _ V).drew.trans hb1; have cy1 := (HB1.out.cell (p := ⟨W.heap.size, 0, none⟩) HLY.out).trans CYV.out; clear hb1)
          try (refine hK _ _ ?_; clear hK K)
          refine wpAnyIn_ready (rs := [3]) (by kernel_rfl) (by simp) ?_
          refine AllReadyIn.cons rfl (fun K hK => ?_) AllReadyIn.nil
          go_simp
          refine hK _ _ ?_
          clear hK K
          refine wpAnyIn_ready (rs := [7]) (by kernel_rfl) (by simp) ?_
          refine AllReadyIn.cons rfl (fun K hK => ?_) AllReadyIn.nil
          go_simp
          refine ⟨trivial, rfl, ?_⟩
          refine (CallsIn.inRound lp (callsIn_wide.2 (HCY.out w1 HB1.out))).mono ?_
          rintro e w2 ⟨bb, rfl, hpost⟩
          have HPO := Lib.hid hpost
          clear hpost
          try (refine hK _ _ ?_; clear hK K)
          refine wpAnyIn_ready (rs := [8]) (by kernel_rfl) (by simp) ?_
          refine AllReadyIn.cons rfl (fun K hK => ?_) AllReadyIn.nil
          go_simp
          refine hK _ _ ?_
          clear hK K
          refine wpAnyIn_ready (rs := [9]) (by kernel_rfl) (by simp) ?_
          refine AllReadyIn.cons rfl (fun K hK => ?_) AllReadyIn.nil
          go_simp
          refine hK _ _ ?_
          clear hK K
          refine wpAnyIn_done (by kernel_rfl) ?_ _
          cases bb
          · gi_wp2
            exact HPO.out
          · gi_wp2
            exact HPO.out
      · go_simp
        gi_wp2_with (refine ⟨trivial, rfl, ?_⟩; gi_at_call 18; refine (CallsIn.inRound lp (callsIn_wide.2 (own_any p _))).mono ?_; rintro e w1 ⟨rfl, hb1⟩; have HB1 : Hid (Below V.heap.size V w1) := (Below.refl _ V).drew.trans hb1; have cy1 := (HB1.out.cell (p := ⟨W.heap.size, 0, none⟩) HLY.out).trans CYV.out; clear hb1)
        try (refine hK _ _ ?_; clear hK K)
        refine wpAnyIn_ready (rs := [3, 4]) (by kernel_rfl) (by simp) ?_
        refine AllReadyIn.cons rfl (fun K hK => ?_) (AllReadyIn.cons rfl (fun K hK => ?_) AllReadyIn.nil)
        · go_simp
          refine hK _ _ ?_
          clear hK K
          refine wpAnyIn_ready (rs := [4]) (by kernel_rfl) (by simp) ?_
          refine AllReadyIn.cons rfl (fun K hK => ?_) AllReadyIn.nil
          go_simp
          refine hK _ _ ?_
          clear hK K
          refine wpAnyIn_ready (rs := [7]) (by kernel_rfl) (by simp) ?_
          refine AllReadyIn.cons rfl (fun K hK => ?_) AllReadyIn.nil
          go_simp
          refine ⟨trivial, rfl, ?_⟩
          refine (CallsIn.inRound lp (callsIn_wide.2 (HCY.out w1 HB1.out))).mono ?_
          rintro e w2 ⟨bb, rfl, hpost⟩
          have HPO := Lib.hid hpost
          clear hpost
          try (refine hK _ _ ?_; clear hK K)
          refine wpAnyIn_ready (rs := [8]) (by kernel_rfl) (by simp) ?_
          refine AllReadyIn.cons rfl (fun K hK => ?_) AllReadyIn.nil
          go_simp
          refine hK _ _ ?_
          clear hK K
          refine wpAnyIn_ready (rs := [9]) (by kernel_rfl) (by simp) ?_
          refine AllReadyIn.cons rfl (fun K hK => ?_) AllReadyIn.nil
          go_simp
          refine hK _ _ ?_
          clear hK K
          refine wpAnyIn_done (by kernel_rfl) ?_ _
          cases bb
          · gi_wp2
            exact HPO.out
          · gi_wp2
            exact HPO.out
        · go_simp
          refine hK _ _ ?_
          clear hK K
          refine wpAnyIn_ready (rs := [3]) (by kernel_rfl) (by simp) ?_
          refine AllReadyIn.cons rfl (fun K hK => ?_) AllReadyIn.nil
          go_simp
          refine hK _ _ ?_
          clear hK K
          refine wpAnyIn_ready (rs := [7]) (by kernel_rfl) (by simp) ?_
          refine AllReadyIn.cons rfl (fun K hK => ?_) AllReadyIn.nil
          go_simp
          refine ⟨trivial, rfl, ?_⟩
          refine (CallsIn.inRound lp (callsIn_wide.2 (HCY.out w1 HB1.out))).mono ?_
          rintro e w2 ⟨bb, rfl, hpost⟩
          have HPO := Lib.hid hpost
          clear hpost
          try (refine hK _ _ ?_; clear hK K)
          refine wpAnyIn_ready (rs := [8]) (by kernel_rfl) (by simp) ?_
          refine AllReadyIn.cons rfl (fun K hK => ?_) AllReadyIn.nil
          go_simp
          refine hK _ _ ?_
          clear hK K
          refine wpAnyIn_ready (rs := [9]) (by kernel_rfl) (by simp) ?_
          refine AllReadyIn.cons rfl (fun K hK => ?_) AllReadyIn.nil
          go_simp
          refine hK _ _ ?_
          clear hK K
          refine wpAnyIn_done (by kernel_rfl) ?_ _
          cases bb
          · gi_wp2
            exact HPO.out
          · gi_wp2
            exact HPO.out
  case done =>
    rintro D V Y hD hDn hL ⟨Yo, rfl, h1, h2, _⟩ hK
    rw [List.length_zipIdx] at h2
    have hD0 : D ∉ Yo := fun z => hDn (List.mem_append_right _ z)
    have hp : Touch [D] V (V.putObj D (.deferred none)) := (Touch.refl _ _).put (.inl (by simp)) _
    have hz := hL.size
    have H2 := Lib.hid (HJ.out _ _ _ _ _ h2 hp (fun q hq z => by simp at z; exact hD0 (z ▸ hq)))
    have HL := Lib.hid (Left.put (Left.less HB.out hL (fun q hq => by simp at hq; subst hq; exact .inr (by omega)) (fun q hq => (h1 q hq).1)) (l := D) (.deferred none) (by omega))
    clear h2 hL h1 hp
    gi_wp2
    refine ⟨by simp, .inl ⟨_, _, rfl, run_takeDeferred hK, ?_⟩⟩
    exact ⟨_, results_none rfl _ _ _, rfl, Yo, HL.out, .inl H2.out⟩
  case stop =>
    rintro D c V Y hD hDn hL ⟨Yo, rfl, h1, rfl, h2⟩ hK
    have hD0 : D ∉ Yo := fun z => hDn (List.mem_append_right _ z)
    have hp : Touch [D] V (V.putObj D (.deferred none)) := (Touch.refl _ _).put (.inl (by simp)) _
    have hz := hL.size
    have H2 := Lib.hid (HQ.out _ _ _ _ h2 hp (fun q hq z => by simp at z; exact hD0 (z ▸ hq)))
    have HL := Lib.hid (Left.put (Left.less HB.out hL (fun q hq => by simp at hq; subst hq; exact .inr (by omega)) h1) (l := D) (.deferred none) (by omega))
    clear h2 hL h1 hp
    gi_wp2
    refine ⟨by simp, .inl ⟨_, _, rfl, run_takeDeferred hK, ?_⟩⟩
    exact ⟨_, results_none rfl _ _ _, rfl, Yo, HL.out, .inr H2.out⟩
end Go.Proofs.Ytokgamagiffaeaa
