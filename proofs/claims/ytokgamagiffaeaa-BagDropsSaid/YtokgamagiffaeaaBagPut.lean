/-
  New, Len, has, Put.
-/
import Derived.Test.YtokgamagiffaeaaBagOwn
import Derived.Deep.RegionLaw
import Derived.Test.YtokgamagiffaeaaHeldTill
namespace Go.Proofs.Ytokgamagiffaeaa
open Go.RowKit

/-- a call of a function with one argument, as one step of a region that draws -/
theorem step_call {P : Program} {ops : Array Oper} {o : Oper} {a : Act} {w : World} {K : Act → World → Prop} {Q : Exit → Act → World → Prop} {E : Prop} (hg : o.guard = none) (f : Nat) (s : Operand) (ts : Array TypeId) (ho : o.op = .call { callee := .value (.func f), args := #[s], argTypes := ts })
    (hf : ∀ x w, (callFunc f #[x]).run P w = .ok (.enter f #[x]) w) (x : Value) (hs : a.eval s = x) {R : Ending → World → Prop} (hc : Calls P f #[x] w R) (h : ∀ e w', R e w' → ∃ v, e = .returned v ∧ K (a.put o.dst v) w') : if Region.wanted o (yielded ops a.tmps) = true then Oper.wp P o a w K Q else E := by
  rw [if_pos (by simp [Region.wanted, hg])]
  obtain ⟨dst, op, ty, pos, after, guard⟩ := o
  obtain rfl : op = _ := ho
  unfold Oper.wp
  rw [execOp_call_go]
  have e : #[] ++ #[s].map a.eval ++ #[] = #[x] := by simp [hs]
  rw [e, hf, Oper.upon_enter]
  refine hc.mono ?_
  intro e w' hr
  obtain ⟨v, rfl, hk⟩ := h e w' hr
  exact hk
theorem step_load_row {P : Program} {ops : Array Oper} {o : Oper} {a : Act} {w : World} {K : Act → World → Prop} {Q : Exit → Act → World → Prop} {E : Prop} (hgd : o.guard = none) (ty : TypeId) (x : Operand) (ho : o.op = .load ty x)
    (g : Nat) (hx : a.eval x = .pointer (some ⟨g, 0, none⟩)) (t : TypeId) (cs : Array Value) (fr : Nat × Nat) (d : TypeDesc) (hg : w.heap[g]? = some (.cells cs t fr))
    (hu : P.underlying ty = some d) (hd : (match d with | .struct _ | .array _ _ => true | _ => false) = true) (hi : (P.info? ty).map (·.size) = some cs.size)
    (h : K (a.put o.dst (.agg cs)) w) : if Region.wanted o (yielded ops a.tmps) = true then Oper.wp P o a w K Q else E := by
  rw [if_pos (by simp [Region.wanted, hgd])]
  exact wp_load_row ty x ho g hx t cs fr d hg hu hd hi h
theorem own_below_ {V w1 : World} {base e size n : Nat} {v : Value} {xs : List Value} (h : V.ownsRow base e size v n xs) (b : Below V.heap.size V w1) : w1.ownsRow base e size v n xs := Touch.row (Touch.ofBelow (F := []) b) h (by simp)
theorem below_drewN {B : Nat} {a b : World} (h : Below B a b) (n : Nat) : Below B a (b.drewN n) := ⟨h.os, h.tape, h.output, h.size, h.block⟩
theorem own_mono_ {W : World} {base b0 e size n : Nat} {v : Value} {xs : List Value} (h : W.ownsRow base e size v n xs) (hb : b0 ≤ base) : W.ownsRow b0 e size v n xs := by
  refine ⟨h.1, ?_⟩
  rcases h.2 with h0 | ⟨g, cap, cur, hv, hg, r⟩
  · exact .inl h0
  · exact .inr ⟨g, cap, cur, hv, Nat.le_trans hb hg, r⟩
theorem own_enter : ∀ x w, (callFunc 18 #[x]).run Try.prog w = .ok (.enter 18 #[x]) w := fun x w => by go_simp

theorem new_any (n : Nat) (hn : n ≤ 2000) (W : World) : Calls Try.prog 9 #[.int .i64 (n : Nat)] W fun e w' => e = .returned (.pointer (some ⟨W.heap.size, 0, none⟩)) ∧ BG w' W.heap.size n [] [W.heap.size] ∧ Below W.heap.size W w' := by
  have h0 : max ((n : Nat) : Int) 0 = ((n : Nat) : Int) := by omega
  have h1 : min ((n : Nat) : Int) 2000 = ((n : Nat) : Int) := by omega
  go_enter Try.func9, Try.ntmps9
  go_wp2
  go_ret
  refine ⟨rfl, ⟨none, 0, rfl, by simp [Value.ownBlock], ⟨by go_simp, by go_simp⟩, by go_simp, World.ownsRow_nil _ _ _ _, Nat.zero_le _, hn⟩, (Below.refl _ _).alloc (Nat.le_refl _) _⟩
theorem len_any {W : World} {g m : Nat} {ps : List Pk} {F : List Nat} (h : BG W g m ps F) : Calls Try.prog 11 #[.pointer (some ⟨g, 0, none⟩)] W fun e w' => e = .returned (.int .i64 (ps.length : Nat)) ∧ w' = W := by
  obtain ⟨A, c, rfl, _, v, _, r, h1, h2⟩ := h
  obtain ⟨n, hn⟩ : ∃ n, ps.length = n := ⟨_, rfl⟩
  rw [hn] at v h1 ⊢
  have c0 := v.val
  have b1 : n ≤ 9223372036854775807 := by omega
  clear r v hn
  go_enter Try.func11, Try.ntmps11
  go_wp2
  go_ret
  exact ⟨rfl, rfl⟩
theorem has_any {W : World} {g m : Nat} {ps : List Pk} {F : List Nat} (h : BG W g m ps F) (n : Int) : Calls Try.prog 19 #[.pointer (some ⟨g, 0, none⟩), .int .i64 n] W fun e w' => e = .returned (.bool (decide (0 ≤ n ∧ n < ps.length))) ∧ w' = W := by
  have hc := len_any h
  by_cases h0 : 0 ≤ n
  · have d0 : decide ((0 : Int) ≤ n) = true := decide_eq_true h0
    have e : decide (0 ≤ n ∧ n < (ps.length : Int)) = decide (n < (ps.length : Int)) := by simp [h0]
    rw [e]
    go_enter Try.func19, Try.ntmps19
    go_wp2_with (go_at_call 11; ((with_reducible refine hc.mono ?_); rintro e w9 ⟨rfl, rfl⟩))
    go_ret
    exact ⟨rfl, rfl⟩
  · have d0 : decide ((0 : Int) ≤ n) = false := decide_eq_false h0
    have e : decide (0 ≤ n ∧ n < (ps.length : Int)) = false := by simp; omega
    rw [e]
    clear hc
    go_enter Try.func19, Try.ntmps19
    go_wp2
    go_ret
    exact ⟨rfl, rfl⟩

theorem bstep_same {W w : World} {g m : Nat} {ps : List Pk} {F : List Nat} (h : BG W g m ps F) (hb : Below W.heap.size W w) : BStep W w F g m ps := ⟨Touch.ofBelow hb, F, h.below hb, fun _ hq => .inl hq⟩
/-- the list of a bag was written anew, or turned in its place -/
theorem bag_set_at {W w3 w4 : World} {g m n l : Nat} {qs : List Pk} {F : List Nat} {A A4 : Option Addr} {c c4 : Nat} (hF : F = g :: (Value.slice A n c).ownBlock.toList) (h0 : g ∉ (Value.slice A n c).ownBlock.toList) (v : Var w3 g (.slice A n c)) (k : w3.cell? ⟨g, 1, none⟩ = some (.int .i64 (m : Nat)))
    (hl : qs.length = l) (hlt : g < W.heap.size) (t : Touch F W w3) (hg : w3.grownBy w4 (Value.slice A n c).ownBlock) (ho : w4.ownsRow 0 38 25 (.slice A4 l c4) l (pkCells qs)) (hs : SameOrNew w3 (.slice A n c) (.slice A4 l c4)) (hm : qs.length ≤ m) (hm2 : m ≤ 2000) :
    Touch F W (w4.setCell ⟨g, 0, none⟩ (.slice A4 l c4)) ∧ BG (w4.setCell ⟨g, 0, none⟩ (.slice A4 l c4)) g m qs (g :: (Value.slice A4 l c4).ownBlock.toList) ∧ ∀ q ∈ g :: (Value.slice A4 l c4).ownBlock.toList, q ∈ F ∨ W.heap.size ≤ q := by
  subst hl
  have t4 : Touch (Value.slice A n c).ownBlock.toList w3 w4 := (Touch.refl _ _).grown hg (fun q hq => .inl (by simp [hq]))
  have v4 := v.touch t4 h0
  have k4 := (t4.cell (p := ⟨g, 1, none⟩) v.lt h0).trans k
  have tS : Touch [g] w4 (w4.setCell ⟨g, 0, none⟩ (.slice A4 qs.length c4)) := (Touch.refl _ _).set (.inl (by simp)) _
  have hnb : g ∉ (Value.slice A4 qs.length c4).ownBlock.toList := fun z => by
    rcases hs g (by simpa using z) with y | y
    · exact h0 (by simp [y])
    · have := v.lt; omega
  refine ⟨(t.trans t4 (fun x hx => .inl (by rw [hF]; simp at hx; simp [hx]))).set (.inl (by rw [hF]; simp)) _, ⟨A4, c4, rfl, hnb, v4.set _, ?_, tS.row ho (fun q hq z => by
    simp at z
    subst z
    exact hnb (by simp [hq])), hm, hm2⟩, fun q hq => ?_⟩
  · rw [World.cell?_setCell_other _ _ _ _ (by simp)]; exact k4
  · rcases List.mem_cons.1 hq with rfl | z
    · exact .inl (by rw [hF]; simp)
    · rcases hs q (by simpa using z) with y | y
      · exact .inl (by rw [hF]; simp [y])
      · have := t.size
        exact .inr (by omega)
theorem bag_set {W w3 w4 : World} {g m n l : Nat} {qs : List Pk} {F : List Nat} {A A4 : Option Addr} {c c4 : Nat} (hF : F = g :: (Value.slice A n c).ownBlock.toList) (h0 : g ∉ (Value.slice A n c).ownBlock.toList) (v : Var w3 g (.slice A n c)) (k : w3.cell? ⟨g, 1, none⟩ = some (.int .i64 (m : Nat)))
    (hl : qs.length = l) (hlt : g < W.heap.size) (t : Touch F W w3) (hg : w3.grownBy w4 (Value.slice A n c).ownBlock) (ho : w4.ownsRow 0 38 25 (.slice A4 l c4) l (pkCells qs)) (hs : SameOrNew w3 (.slice A n c) (.slice A4 l c4)) (hm : qs.length ≤ m) (hm2 : m ≤ 2000) :
    BStep W (w4.setCell ⟨g, 0, none⟩ (.slice A4 l c4)) F g m qs := by
  obtain ⟨a, b, d⟩ := bag_set_at hF h0 v k hl hlt t hg ho hs hm hm2
  exact ⟨a, _, b, d⟩
theorem pk_load {w : World} {b : Nat} {p : Pk} (h : w.heap[b]? = some (.cells p.cells 38)) : (Instr.loadAt 38 (.pointer (some ⟨b, 0, none⟩))).run Try.prog w.drew = .ok (.agg p.cells) w.drew := by
  have h1 : w.drew.rangeAt b 0 p.cells.toList := fun j v hj => by
    rw [Nat.zero_add]
    rw [Array.getElem?_toList] at hj
    exact bg_cell (w := w) h hj
  have := run_loadAt_mid (P := Try.prog) w.drew b 0 38 p.cells.toList _ h1 Try.underlying38 rfl bg_infoP
  exact this
theorem infoPk : ∃ i, Try.prog.info? 38 = some i ∧ i.zero = some (.agg Pk.zero.cells) ∧ i.size = 25 ∧ i.bytes = 272 := infoPacks
theorem pk_from (w : World) (p : Pk) : From (w.alloc (.cells p.cells 38)) 25 (.slice (some ⟨w.heap.size, 0, none⟩) 1 1) 1 (pkCells [p]) :=
  .inr ⟨_, _, rfl, rfl, fun j u hj => by
    rw [pkCells_one1, Array.getElem?_toList] at hj
    rw [Go.WideShapes.add_plain, Nat.zero_add]
    exact bg_cell (heap_alloc_new w _) hj⟩

set_option maxRecDepth 20000 in
set_option maxHeartbeats 2000000 in
theorem put_any {W : World} {g m : Nat} {ps : List Pk} {F : List Nat} (h : BG W g m ps F) (p : Pk) :
    Calls Try.prog 10 #[.pointer (some ⟨g, 0, none⟩), .agg p.cells] W fun e w' => e = .returned (.bool (decide (ps.length < m))) ∧ BStep W w' F g m (if ps.length < m then ps ++ [p] else ps) := by
  have HB := Lib.hid h
  obtain ⟨A, c, hF, h0, v, k, r, h1, h2⟩ := h
  have b1 : (W.alloc (.cells p.cells 38)).heap[W.heap.size]? = some (.cells p.cells 38) := heap_alloc_new W _
  have B1 : Below W.heap.size W (W.alloc (.cells p.cells 38)) := (Below.refl _ _).alloc (Nat.le_refl _) _
  have v1 := v.old (.cells p.cells 38)
  have k1 : (W.alloc (.cells p.cells 38)).cell? ⟨g, 1, none⟩ = some (.int .i64 (m : Nat)) := (B1.cell (p := ⟨g, 1, none⟩) v.lt).trans k
  obtain ⟨n, hn⟩ : ∃ n, ps.length = n := ⟨_, rfl⟩
  have HN := Lib.hid hn
  have HGL := Lib.hid v.lt
  rw [hn] at v1 h1 hF h0 r ⊢
  have c0 := v1.val
  have f0 := v1.free
  have HV := Lib.hid v1
  have HBB := Lib.hid B1
  have b9 : n ≤ 9223372036854775807 := by omega
  have HR := Lib.hid (own_below_ r B1)
  have HF := Lib.hid hF
  have H0 := Lib.hid h0
  have HK := Lib.hid k1
  have HM := Lib.hid h1
  have HM2 := Lib.hid h2
  clear r v k hn v1 hF h0
  obtain ⟨i0, hi0, hz0, hs0, hb0⟩ := infoPk
  have hsz : (Try.prog.info? 38).map (·.size) = some p.cells.size := bg_infoP
  have HONE := Lib.hid p.one
  by_cases hf : n < m
  · have d1 : ((n : Int) == (m : Int)) = false := by simp; omega
    rw [if_pos hf, show decide (n < m) = true from decide_eq_true hf]
    have HFU := Lib.hid hf
    clear hf
    go_enter Try.func10, Try.ntmps10
    go_upto_region 1 with fail
    obtain ⟨w1, hw1⟩ : ∃ w1, W.alloc (.cells p.cells 38) = w1 := ⟨_, rfl⟩
    rw [hw1] at b1 k1 c0 f0 HV HBB B1 HR HK ⊢
    clear hw1 B1
    go_quiet (fail)
    go_wp2
    have g0 : (w1.drewN nq).cell? ⟨g, 0, none⟩ = some (.slice A n c) := c0
    have g1 : (w1.drewN nq).frozen? ⟨g, 0, none⟩ = false := f0
    have g2 : (w1.drewN nq).heap[W.heap.size]? = some (.cells p.cells 38) := b1
    have gV : Hid (Var (w1.drewN nq) g (.slice A n c)) := ⟨HV.out.val, HV.out.free⟩
    have gK : Hid ((w1.drewN nq).cell? ⟨g, 1, none⟩ = some (.int .i64 (m : Nat))) := HK.out
    have gR : Hid ((w1.drewN nq).ownsRow 0 38 25 (.slice A n c) n (pkCells ps)) := HR.out
    have gB : Hid (Below W.heap.size W (w1.drewN nq)) := below_drewN HBB.out nq
    generalize w1.drewN nq = w2 at *
    have CO : Hid (∀ w, Calls Try.prog 18 #[.agg p.cells] w fun e w' => e = .returned (.agg p.cells) ∧ Below w.heap.size w w') := fun w => own_any p w
    clear b1 c0 f0 HV HBB HR HK k1 d1
    --REGION put
    refine wp_region_till (fun w' => Below w2.heap.size w2 w' ∧ w'.cell? ⟨g, 0, none⟩ = some (.slice A n c)) 8 (by kernel_rfl) ?_ (fun hHeld => ?_)
    · (try dsimp only); exact ⟨(Below.refl _ _).drew, g0⟩
    refine wpAnyT_pure (i := 0) (oi := ⟨_, _, _, _, _, _⟩) (v := ?_) rfl (by kernel_rfl) (by kernel_rfl) (by kernel_rfl) (fun _ _ _ h => h) (by kernel_rfl) (Or.inl ⟨by rfl, ?_⟩) (by assumption) ?_
    rotate_left
    · (intro wS hSw; (try dsimp only at hSw); go_simp <;> with_reducible rfl)
    try simp only [Act.put, List.setIfInBounds_toArray, List.set_cons_zero, List.set_cons_succ]
    refine wpAnyT_pure (i := 1) (oi := ⟨_, _, _, _, _, _⟩) (v := ?_) rfl (by kernel_rfl) (by kernel_rfl) (by kernel_rfl) (fun _ _ _ h => h) (by kernel_rfl) (Or.inl ⟨by rfl, ?_⟩) (by assumption) ?_
    rotate_left
    · (intro wS hSw; (try dsimp only at hSw); go_simp <;> with_reducible rfl)
    try simp only [Act.put, List.setIfInBounds_toArray, List.set_cons_zero, List.set_cons_succ]
    refine wpAnyT_pure (i := 2) (oi := ⟨_, _, _, _, _, _⟩) (v := ?_) rfl (by kernel_rfl) (by kernel_rfl) (by kernel_rfl) (fun _ _ _ h => h) (by kernel_rfl) (Or.inl ⟨by rfl, ?_⟩) (by assumption) ?_
    rotate_left
    · (intro wS hSw; (try dsimp only at hSw); go_simp <;> with_reducible rfl)
    try simp only [Act.put, List.setIfInBounds_toArray, List.set_cons_zero, List.set_cons_succ]
    refine wpAnyT_pure (i := 3) (oi := ⟨_, _, _, _, _, _⟩) (v := ?_) rfl (by kernel_rfl) (by kernel_rfl) (by kernel_rfl) (fun _ _ _ h => h) (by kernel_rfl) (Or.inl ⟨by rfl, ?_⟩) (by assumption) ?_
    rotate_left
    · (intro wS hSw; (try dsimp only at hSw); go_simp <;> with_reducible rfl)
    try simp only [Act.put, List.setIfInBounds_toArray, List.set_cons_zero, List.set_cons_succ]
    refine wpAnyT_take (i := 4) (oi := ⟨_, _, _, _, _, _⟩) (v := ?_) rfl (by kernel_rfl) (by kernel_rfl) (by kernel_rfl) (fun _ _ _ h => h) (by kernel_rfl) (Or.inl ⟨by rfl, ?_⟩) (by assumption) ?_
    rotate_left
    · (intro wS hSw; (try dsimp only at hSw); go_simp <;> with_reducible rfl)
    try simp only [Act.put, List.setIfInBounds_toArray, List.set_cons_zero, List.set_cons_succ]
    refine wpAnyT_ready (rs := [5]) (by kernel_rfl) (by simp) ?_
    refine AllReadyT.cons (o := ⟨_, _, _, _, _, _⟩) rfl (fun K hK => ?_) AllReadyT.nil
    refine step_load_row rfl 38 (.tmp 3) rfl W.heap.size rfl 38 p.cells (0, 0) _ g2 Try.underlying38 rfl hsz ?_
    refine hK.out _ _ (by (try dsimp only); first | assumption | exact ⟨hb3, g03⟩ | exact ⟨hb3.alloc HB3.out.size _, (HV3.out.old _).val⟩) (fun hHeld => ?_)
    clear hK K
    try simp only [Act.put, List.setIfInBounds_toArray, List.set_cons_zero, List.set_cons_succ]
    refine wpAnyT_ready (rs := [6]) (by kernel_rfl) (by simp) ?_
    refine AllReadyT.cons (o := ⟨_, _, _, _, _, _⟩) rfl (fun K hK => ?_) AllReadyT.nil
    go_simp
    (first | (go_at_call 18; (with_reducible refine (CO.out _).mono ?_); rintro e w3 ⟨rfl, hb3⟩; have hb3 : Below w2.heap.size w2 w3 := (Below.refl _ w2).drew.trans hb3; have HB3 := Lib.hid hb3; have gV3 := gV.out.below hb3; have g03 := gV3.val; have g13 := gV3.free; have HV3 := Lib.hid gV3; clear gV3))
    go_wp2_with fail
    refine hK.out _ _ (by (try dsimp only); first | assumption | exact ⟨hb3, g03⟩ | exact ⟨hb3.alloc HB3.out.size _, (HV3.out.old _).val⟩) (fun hHeld => ?_)
    clear hK K
    try simp only [Act.put, List.setIfInBounds_toArray, List.set_cons_zero, List.set_cons_succ]
    refine wpAnyT_ready (rs := [7]) (by kernel_rfl) (by simp) ?_
    refine AllReadyT.cons (o := ⟨_, _, _, _, _, _⟩) rfl (fun K hK => ?_) AllReadyT.nil
    go_simp
    refine hK.out _ _ (by (try dsimp only); first | assumption | exact ⟨hb3, g03⟩ | exact ⟨hb3.alloc HB3.out.size _, (HV3.out.old _).val⟩) (fun hHeld => ?_)
    clear hK K
    try simp only [Act.put, List.setIfInBounds_toArray, List.set_cons_zero, List.set_cons_succ]
    refine wpAnyT_ready (rs := [8]) (by kernel_rfl) (by simp) ?_
    refine AllReadyT.past (o := ⟨_, _, _, _, _, _⟩) rfl (by kernel_rfl) (fun K hK => ?_) AllReadyT.nil
    refine step_append_any rfl (.tmp 23) (.tmp 26) 52 rfl 0 38 i0 (.agg Pk.zero.cells) 25 272 Try.underlying52 hi0 hz0 hs0 hb0 rfl (by decide) (.slice A n c) n (pkCells ps) rfl ((own_below_ gR.out HB3.out).alloc _) (.slice (some ⟨w3.heap.size, 0, none⟩) 1 1) 1 (pkCells [p]) rfl (pk_from w3 p) (pkCells_all [p]) (by unfold maxLen; omega) (by omega) (Nat.zero_le _) ?_
    intro A4 c4 w4 ho4 hg4 hs4
    have t4 : Touch (Value.slice A n c).ownBlock.toList (w3.alloc (.cells p.cells 38)) w4 := (Touch.refl _ _).grown hg4 (fun q hq => .inl (by simp [hq]))
    have hv4 := (HV3.out.old (.cells p.cells 38)).touch t4 H0.out
    have e4 := hv4.val
    have f4 := hv4.free
    have HO4 := Lib.hid ho4
    have HG4 := Lib.hid hg4
    have HS4 := Lib.hid hs4
    clear t4 hv4 ho4 hg4 hs4
    refine hK.out _ _ ?_
    clear hK K
    try simp only [Act.put, List.setIfInBounds_toArray, List.set_cons_zero, List.set_cons_succ]
    refine wpAnyT_ready (rs := [9]) (by kernel_rfl) (by simp) ?_
    refine AllReadyT.past (o := ⟨_, _, _, _, _, _⟩) rfl (by kernel_rfl) (fun K hK => ?_) AllReadyT.nil
    go_simp
    refine hK.out _ _ ?_
    clear hK K
    try simp only [Act.put, List.setIfInBounds_toArray, List.set_cons_zero, List.set_cons_succ]
    refine wpAnyT_ready (rs := [10]) (by kernel_rfl) (by simp) ?_
    refine AllReadyT.past (o := ⟨_, _, _, _, _, _⟩) rfl (by kernel_rfl) (fun K hK => ?_) AllReadyT.nil
    go_simp
    refine hK.out _ _ ?_
    clear hK K
    try simp only [Act.put, List.setIfInBounds_toArray, List.set_cons_zero, List.set_cons_succ]
    refine wpAnyT_ready (rs := [11]) (by kernel_rfl) (by simp) ?_
    refine AllReadyT.past (o := ⟨_, _, _, _, _, _⟩) rfl (by kernel_rfl) (fun K hK => ?_) AllReadyT.nil
    go_simp
    refine hK.out _ _ ?_
    clear hK K
    try simp only [Act.put, List.setIfInBounds_toArray, List.set_cons_zero, List.set_cons_succ]
    refine wpAnyT_done (by kernel_rfl) ?_ _
    --END
    go_wp2_with fail
    go_ret
    exact ⟨rfl, bag_set HF.out H0.out (HV3.out.old _) ((((HB3.out.alloc HB3.out.size (.cells p.cells 38)).cell (p := ⟨g, 1, none⟩) gV.out.lt)).trans gK.out) (by rw [List.length_append, HN.out]; rfl) HGL.out ((Touch.ofBelow gB.out).trans (Touch.ofBelow (F := []) (HB3.out.alloc HB3.out.size _)) (by simp)) HG4.out (by rw [pkCells_append]; exact HO4.out) HS4.out (by rw [List.length_append, HN.out]; exact HFU.out) HM2.out⟩
  · have d1 : ((n : Int) == (m : Int)) = true := by simp; omega
    rw [if_neg hf, show decide (n < m) = false from decide_eq_false hf]
    go_enter Try.func10, Try.ntmps10
    go_upto_region 1 with fail
    obtain ⟨w1, hw1⟩ : ∃ w1, W.alloc (.cells p.cells 38) = w1 := ⟨_, rfl⟩
    rw [hw1] at b1 k1 c0 f0 HBB B1 ⊢
    clear HV HR HK hw1
    go_quiet (fail)
    go_wp2
    go_ret
    exact ⟨rfl, bstep_same HB.out (below_drewN HBB.out _)⟩
end Go.Proofs.Ytokgamagiffaeaa
