/-
  The code's gate: Where.
-/
import Derived.Test.YtompbhkmaalioaaGateCodeD
namespace Go.Proofs.Ytompbhkmaalioaa
open Go.RowKit

attribute [local go_sem] Oper.semAt_some

/-- a whole array out of the middle of a block, inside a fence -/
theorem wpListIn_load_mid {F : Fence} {n : Nat} {P : Program} {ops : Array Oper} {rest : List Oper} {op : Oper} {a : Act} {w : World} {Q : Exit → Act → World → Prop} (hgd : op.guard = none) (ty : TypeId) (x : Operand) (ho : op.op = .load ty x)
    (b o : Nat) (hx : a.eval x = .pointer (some ⟨b, o, none⟩)) (cs : List Value) (d : TypeDesc) (hc : w.rangeAt b o cs)
    (hu : P.underlying ty = some d) (hd : d.isRow = true) (hi : (P.info? ty).map (·.size) = some cs.length)
    (h : wpListIn F n P ops Q rest (a.put op.dst (.agg cs.toArray)) w) : wpListIn F n P ops Q (op :: rest) a w := by
  refine wpListIn_plain hgd fun K hK => ?_
  refine ⟨by simp [Oper.about, ho], ?_⟩
  rw [Oper.semAt_plain F _ _ (by rw [ho]; intro c hc; cases hc)]
  simp only [execOp, ho, hx, Instr.loadAt, Instr.sureAddr, Sem.run_bind, Sem.run_pure, Result.andThen_ok, run_loadVar_mid w b o ty cs d hc hu hd hi]
  exact hK _ _ h
/-- the pointer over x that a row's way backward meets first, in its first n rounds -/
def metB (l : List GP) (x n : Nat) : Option Int := ((l.zipIdx.reverse.take n).find? fun p => inB p.1.f p.1.t x).map (·.1.n)
theorem metB_zero (l : List GP) (x : Nat) : metB l x 0 = none := rfl
theorem metB_succ {l : List GP} {x n : Nat} {p : GP × Nat} (h : l.zipIdx.reverse[n]? = some p) (h0 : metB l x n = none) : metB l x (n + 1) = if inB p.1.f p.1.t x then some p.1.n else none := by
  unfold metB at h0 ⊢
  rw [List.take_add_one, h, List.find?_append]
  cases hf : (l.zipIdx.reverse.take n).find? fun p => inB p.1.f p.1.t x with
  | some y => rw [hf] at h0; cases h0
  | none =>
    simp only [Option.toList_some, List.find?_cons, List.find?_nil, Option.none_or]
    cases inB p.1.f p.1.t x <;> rfl
theorem zip_over : ∀ (l : List GP) (k x : Nat), (((l.zipIdx k).reverse).find? fun p => inB p.1.f p.1.t x).map (·.1.n) = overL l x
  | [], _, _ => rfl
  | p :: l, k, x => by
    have h := zip_over l (k + 1) x
    unfold overL at h ⊢
    rw [List.zipIdx_cons, List.reverse_cons, List.find?_append, List.reverse_cons, List.find?_append]
    cases h1 : ((l.zipIdx (k + 1)).reverse).find? fun p => inB p.1.f p.1.t x with
    | some y =>
      cases h2 : l.reverse.find? fun p => inB p.f p.t x with
      | some z => rw [h1, h2] at h; exact h
      | none => rw [h1, h2] at h; cases h
    | none =>
      cases h2 : l.reverse.find? fun p => inB p.f p.t x with
      | some z => rw [h1, h2] at h; cases h
      | none =>
        simp only [Option.none_or, List.find?_cons, List.find?_nil]
        cases inB p.f p.t x <;> rfl
theorem metB_all (l : List GP) (x n : Nat) (h : l.length ≤ n) : metB l x n = overL l x := by
  unfold metB
  rw [List.take_of_length_le (by rw [List.length_reverse, List.length_zipIdx]; exact h)]
  exact zip_over l 0 x
/-- one that was met is the one -/
theorem metB_over {l : List GP} {x n : Nat} {nd : Int} (h : metB l x n = some nd) : overL l x = some nd := by
  rw [← metB_all l x (n + l.length) (by omega)]
  unfold metB at h ⊢
  rw [List.take_add, List.find?_append]
  cases hf : (l.zipIdx.reverse.take n).find? fun p => inB p.1.f p.1.t x with
  | some y => rw [hf] at h; exact h
  | none => rw [hf] at h; cases h
set_option maxRecDepth 100000 in
set_option maxHeartbeats 8000000 in
theorem gateWhere_any {W : World} {g : Nat} {s : GS} {F : List Nat} (x : Nat) (hx : x < 18446744073709551616) (h : VG W g s F) : Calls Try.prog 16 #[.pointer (some ⟨g, 0, none⟩), .int .u64 (x : Nat)] W fun e w' => e = .returned (whereV (overL s.l x)) ∧ Below W.heap.size W w' := by
  obtain ⟨r0, R, h, rfl⟩ := h
  have HR := Lib.hid (gm_array h)
  have HZ : Hid ((Try.prog.info? 29).map (·.size) = some ((r0 :: R).map (·.1)).length) := by show _ = _; rw [infoArr_]; simp [h.hl]
  have HS : Hid (∀ (i : Nat) (y : GRow), (r0 :: R)[i]? = some y → (∃ A c, y.1 = .slice A y.2.length c) ∧ W.ownsRow 0 54 3 y.1 y.2.length (rowC gE y.2) ∧ y.2.length ≤ 1001 ∧ ∀ p ∈ y.2, p.f < 18446744073709551616 ∧ p.t < 18446744073709551616) := fun i y hy =>
    have hm := List.mem_of_getElem? hy
    ⟨own_slice (h.rows y hm), h.rows y hm, by
      have h1 := upTo_succ hy
      have h2 := upTo_le (r0 :: R) (i + 1)
      rw [← agesL_len _ 0, ← h.l] at h2
      have := h.few
      omega, h.pts y hm⟩
  have HI : Hid (∀ (w : World) (i : Nat) (y : GRow), (r0 :: R)[i]? = some y → i < 40 → (Instr.index 29 (.agg ((r0 :: R).map (·.1)).toArray) (.int .i64 (i : Nat))).run Try.prog w = .ok y.1 w) := fun w i y hy hi => run_index_slot w 29 28 54 40 _ i y.1 Try.underlying29 Try.underlying28 infoSl_ hi (by rw [List.getElem?_toArray, List.getElem?_map, hy]; rfl)
  have HL : Hid ((r0 :: R).length = 40) := by show _ = _; simp [h.hl]
  have HO : Hid (overL (agesL 0 (r0 :: R)) x = overL s.l x) := by show _ = _; rw [h.l]
  obtain ⟨S, hS⟩ : ∃ S, r0 :: R = S := ⟨_, rfl⟩
  rw [hS] at HR HZ HS HI HL HO
  have HST : Hid (∀ (i : Nat) (y : GRow), S[i]? = some y → overL (agesL i (S.drop i)) x = (overL y.2 x).or (overL (agesL (i + 1) (S.drop (i + 1))) x)) := fun i y hy => by
    have hlt := (List.getElem?_eq_some_iff.1 hy).1
    rw [List.drop_eq_getElem_cons hlt, overL_ages]
    rw [List.getElem?_eq_getElem hlt] at hy
    rw [Option.some.inj hy]
  have CI : Hid (∀ (p : GP), p.f < 18446744073709551616 ∧ p.t < 18446744073709551616 → ∀ W, Calls Try.prog 20 #[.agg #[.int .u64 (p.f : Nat), .int .u64 (p.t : Nat)], .int .u64 (x : Nat)] W fun e w' => e = .returned (.bool (inB p.f p.t x)) ∧ Below W.heap.size W w') := fun p hp W => in_any p.f p.t x W hp.1 hp.2 hx
  obtain ⟨o, ho⟩ : ∃ o, overL s.l x = o := ⟨_, rfl⟩
  rw [ho] at HO ⊢
  have hglt := h.lt
  clear h hS ho hx
  obtain ⟨arr, ha⟩ : ∃ arr, S.map (·.1) = arr := ⟨_, rfl⟩
  rw [ha] at HR HZ HI
  clear ha
  have HRA : Hid (∀ w, Below W.heap.size W w → w.rangeAt g 3 arr) := fun w hb j v hj => (hb.cell (p := ⟨g, 3 + j, none⟩) hglt).trans (HR.out j v hj)
  unfold whereV
  refine (callsIn_wide (n := 0)).1 (callsIn_of_wp_marks Try.func16 rfl trivial ?_ rfl)
  simp only [Try.ntmps16, List.size_toArray, List.length_cons, List.length_nil, Nat.reduceAdd, Nat.reduceSub, Array.replicate_succ, Array.replicate_zero, List.push_toArray, List.append_toArray, List.nil_append, List.cons_append]
  gi_wp2
  refine wpIn_wide.2 (wp_scope_straight ((wpIn_wide (n := 0)).1 ?_))
  gi_wp2
  refine wpIn_label ?_
  have v0 : Var (((W.alloc (.cells #[.int .u64 (x : Nat)] 23)).alloc (.cells #[.int .i64 0] 3)).alloc (.cells #[.bool false] 4)) W.heap.size (.int .u64 (x : Nat)) := ((Var.new W _ _).old _).old _
  have v1 : Var (((W.alloc (.cells #[.int .u64 (x : Nat)] 23)).alloc (.cells #[.int .i64 0] 3)).alloc (.cells #[.bool false] 4)) (W.heap.size + 1) (.int .i64 0) := by
    have z := (Var.new (W.alloc (.cells #[.int .u64 (x : Nat)] 23)) (.int .i64 0) 3).old (.cells #[.bool false] 4)
    rwa [World.size_alloc] at z
  have v2 : Var (((W.alloc (.cells #[.int .u64 (x : Nat)] 23)).alloc (.cells #[.int .i64 0] 3)).alloc (.cells #[.bool false] 4)) (W.heap.size + 1 + 1) (.bool false) := by
    have z := Var.new ((W.alloc (.cells #[.int .u64 (x : Nat)] 23)).alloc (.cells #[.int .i64 0] 3)) (.bool false) 4
    rwa [World.size_alloc, World.size_alloc] at z
  have b3 : Below W.heap.size W (((W.alloc (.cells #[.int .u64 (x : Nat)] 23)).alloc (.cells #[.int .i64 0] 3)).alloc (.cells #[.bool false] 4)) := ((((Below.refl _ W).alloc (Nat.le_refl _) _).alloc (by simp) _).alloc (by simp; omega) _)
  have z3 : (((W.alloc (.cells #[.int .u64 (x : Nat)] 23)).alloc (.cells #[.int .i64 0] 3)).alloc (.cells #[.bool false] 4)).heap.size = W.heap.size + 3 := by simp
  generalize (((W.alloc (.cells #[.int .u64 (x : Nat)] 23)).alloc (.cells #[.int .i64 0] 3)).alloc (.cells #[.bool false] 4)) = W3 at *
  have HB3 := Lib.hid b3
  have HRW := Lib.hid (HRA.out W3 b3)
  gi_wp2_with (refine wpListIn_load_mid rfl 29 (.tmp 16) rfl g 3 rfl arr _ HRW.out Try.underlying29 rfl HZ.out ?_)
  refine wpIn_loop (fun a V => ∃ (i : Nat) (Ds : List Nat) (u9 u19 u20 u21 u22 u31 : Value),
      a = { tmps := #[.pointer (some ⟨g, 0, none⟩), .int .u64 (x : Nat), undef, .pointer (some ⟨W.heap.size, 0, none⟩), .int .i64 0, .bool false, .pointer (some ⟨W.heap.size + 1, 0, none⟩), .pointer (some ⟨W.heap.size + 1 + 1, 0, none⟩), undef, u9, undef, undef, .pointer (some ⟨g, 0, none⟩), .bool false, .pointer (some ⟨g, 0, none⟩), .pointer (some ⟨g, 0, none⟩), .pointer (some ⟨g, 3, none⟩), .agg arr.toArray, .int .i64 (i : Nat), u19, u20, u21, u22, undef, undef, undef, undef, undef, undef, undef, undef, u31, undef, undef], defers := Ds.map mark } ∧
      i ≤ 40 ∧ Hid (overL (agesL i (S.drop i)) x = o) ∧ Hid (Below W.heap.size W V) ∧ W.heap.size + 3 ≤ V.heap.size ∧ Hid (Var V W.heap.size (.int .u64 (x : Nat))) ∧ Hid (Var V (W.heap.size + 1) (.int .i64 0)) ∧ Hid (Var V (W.heap.size + 1 + 1) (.bool false)) ∧
      Hid (Ds.Nodup ∧ ∀ D ∈ Ds, W.heap.size + 3 ≤ D ∧ V.heap[D]? = some (.deferred (some []))))
    (fun a _ => 40 - (intOf (a.tmps.getD 18 undef)).toNat) ?_ ?_
  · exact ⟨0, [], undef, undef, undef, undef, undef, undef, rfl, Nat.zero_le _, HO.out, HB3.out, by omega, v0, v1, v2, List.nodup_nil, fun D hD => by cases hD⟩
  · rintro a V ⟨i, Ds, u9, u19, u20, u21, u22, u31, rfl, hi, HOV, HB, hV, HV0, HV1, HV2, HDS⟩
    clear v0 v1 v2 b3 z3
    by_cases hlt : i < 40
    · obtain ⟨y, hy⟩ : ∃ y, S[i]? = some y := ⟨_, List.getElem?_eq_getElem (by rw [HL.out]; exact hlt)⟩
      have hix := HI.out V i y hy hlt
      obtain ⟨⟨A, c, hA⟩, hrow, hle, hpts⟩ := HS.out i y hy
      have hst := HST.out i y hy
      rw [HOV.out] at hst
      obtain ⟨yv, l⟩ := y
      simp only at hA hrow hle hpts hst hix
      subst hA
      obtain ⟨n, hn⟩ : ∃ n, l.length = n := ⟨_, rfl⟩
      rw [hn] at hix hrow hle
      have HN := Lib.hid hn
      have HROW := Lib.hid hrow
      have HST2 := Lib.hid hst
      have HPT := Lib.hid hpts
      have t1 : decide (i < 40) = true := by simp; omega
      have i1 : (i : Int) < 40 := by omega
      clear hn hrow hst hpts hy
      gi_wp2_with (refine ⟨trivial, rfl, ?_⟩; gi_at_call 21; refine (callsIn_wide.2 (backward_any _ _ _ _)).mono ?_; rintro e w' ⟨rfl, rfl⟩)
      have cb : (V.alloc (.cells #[.slice A n c] 28)).cell? ⟨V.heap.size, 0, none⟩ = some (.slice A n c) := by go_simp
      have hv0 := HV0.out.old (.cells #[.slice A n c] 28)
      have hv1 := HV1.out.old (.cells #[.slice A n c] 28)
      have hv2 := HV2.out.old (.cells #[.slice A n c] 28)
      have hbn : Below V.heap.size V (V.alloc (.cells #[.slice A n c] 28)) := (Below.refl _ _).alloc (Nat.le_refl _) _
      have hzn : (V.alloc (.cells #[.slice A n c] 28)).heap.size = V.heap.size + 1 := by simp
      generalize (V.alloc (.cells #[.slice A n c] 28)) = V2 at *
      have HBN := Lib.hid hbn
      have HBV : Hid (Below W.heap.size W V2) := acc HB.out hbn
      have HOWN : Hid (∀ q, (Value.slice A n c).ownBlock = some q → q < W.heap.size) := fun q hq => (HROW.out.lt q hq).2
      have HCB := Lib.hid cb
      have hszp : (Try.prog.info? 54).map (·.size) = some 3 := by kernel_rfl
      clear cb hbn
      refine wp_seqA (α := GP × Nat) (enc := encG) (gf := 24) (lb := #[.pointer (some ⟨V.heap.size, 0, none⟩)]) rfl (enters_of Try.func24 (by kernel_rfl) rfl) (xs := l.zipIdx.reverse) (B := V.heap.size :: (Value.slice A n c).ownBlock.toList)
        (fun V3 hV3 => backWay (own_step HROW.out (HBV.out.trans (hV3.mono HBV.out.size))) HN.out (by omega) ((hV3.cell (p := ⟨V.heap.size, 0, none⟩) (by simp [hzn])).trans HCB.out))
        (fun q hq => by
          rcases List.mem_cons.1 hq with rfl | z
          · omega
          · have := HOWN.out q (Option.mem_toList.1 z)
            omega) (fun _ => rfl)
        (fun m V3 Y => Y = [W.heap.size, W.heap.size + 1, W.heap.size + 1 + 1] ∧ Var V3 W.heap.size (.int .u64 (x : Nat)) ∧ Var V3 (W.heap.size + 1) (.int .i64 0) ∧ Var V3 (W.heap.size + 1 + 1) (.bool false) ∧ metB l x m = none)
        (fun cd V3 Y => cd = .exit 0 ∧ Y = [W.heap.size, W.heap.size + 1, W.heap.size + 1 + 1] ∧ ∃ nd, Var V3 (W.heap.size + 1) (.int .i64 nd) ∧ Var V3 (W.heap.size + 1 + 1) (.bool true) ∧ overL l x = some nd)
        [W.heap.size, W.heap.size + 1, W.heap.size + 1 + 1] (by simp; omega) ⟨rfl, hv0, hv1, hv2, rfl⟩
        (by
          rintro m V3 V4 Y G ⟨rfl, h0, h1, h2, h3⟩ tt hn
          exact ⟨rfl, h0.touch tt (hn _ (by simp)), h1.touch tt (hn _ (by simp)), h2.touch tt (hn _ (by simp)), h3⟩)
        (by
          rintro cd V3 V4 Y G ⟨rfl, rfl, nd, h1, h2, h3⟩ tt hn
          exact ⟨rfl, rfl, nd, h1.touch tt (hn _ (by simp)), h2.touch tt (hn _ (by simp)), h3⟩)
        (fun m W0 y a1 V3 => V3.heap[W0.heap.size]? = some (.cells (gE y.1) 54) ∧ a1 = { tmps := #[.pointer (some ⟨g, 0, none⟩), .int .u64 (x : Nat), undef, .pointer (some ⟨W.heap.size, 0, none⟩), .int .i64 0, .bool false, .pointer (some ⟨W.heap.size + 1, 0, none⟩), .pointer (some ⟨W.heap.size + 1 + 1, 0, none⟩), undef, .slice A n c, undef, .pointer (some ⟨W0.heap.size, 0, none⟩), .pointer (some ⟨g, 0, none⟩), .bool false, .pointer (some ⟨g, 0, none⟩), .pointer (some ⟨g, 0, none⟩), .pointer (some ⟨g, 3, none⟩), .agg arr.toArray, .int .i64 (i : Nat), .bool true, .slice A n c, .slice A n c, .func (.func 24) #[] #[.pointer (some ⟨V.heap.size, 0, none⟩)], .int .i64 (y.2 : Nat), .agg (gE y.1), undef, undef, undef, undef, undef, undef, u31, undef, undef], defers := [] })
        (by
          rintro m V3 y a1 V4 V5 G ⟨h1, h2⟩ tt hG
          exact ⟨(tt.block _ (gm_lt h1) (fun z => Nat.lt_irrefl _ (hG _ z))).trans h1, h2⟩)
        ?assign ?body ?done ?stop
      case assign =>
        rintro lp m ⟨p, j⟩ V3 K hxm hK
        have HKK := Lib.hid (hK _ _ ((Below.refl V3.heap.size V3).alloc (Nat.le_refl _) (.cells (gE p) 54)) ⟨heap_alloc_new V3 _, rfl⟩)
        clear hK hxm
        gi_wp2
        exact HKK.out
      case body =>
        rintro lp m ⟨p, j⟩ W0 V3 a1 Y hW0 hV3 hxm ⟨rfl, h0, h1, h2, h3⟩ hY ⟨h4, rfl⟩
        have hm := metB_succ hxm h3
        have hpl : p ∈ l := by
          have z := List.mem_reverse.1 (List.mem_of_getElem? hxm)
          exact (List.mem_zipIdx' z).2 ▸ List.getElem_mem _
        have CP := Lib.hid (CI.out p (HPT.out p hpl))
        have c0 := h0.val
        have p0 : V3.cell? ⟨W0.heap.size, 0, none⟩ = some (.int .u64 (p.f : Nat)) := gm_cell h4 rfl
        have p1 : V3.cell? ⟨W0.heap.size, 1, none⟩ = some (.int .u64 (p.t : Nat)) := gm_cell h4 rfl
        have p2 : V3.cell? ⟨W0.heap.size, 2, none⟩ = some (.int .i64 p.n) := gm_cell h4 rfl
        have H0 := Lib.hid h0
        have H1 := Lib.hid h1
        have H2 := Lib.hid h2
        have HM := Lib.hid hm
        have hlw := gm_lt h4
        have L0 := H0.out.lt
        have L1 := H1.out.lt
        have L2 := H2.out.lt
        clear hxm h0 h1 h2 h3 h4 hY hpl hm
        cases hin : inB p.f p.t x with
        | false =>
          rw [hin] at CP HM
          have HM2 : Hid (metB l x (m + 1) = none) := HM.out.trans (if_neg (by decide))
          clear HM
          gi_wp2_with (refine ⟨trivial, rfl, ?_⟩; gi_at_call 20; refine (CallsIn.inRound lp (callsIn_wide.2 (CP.out _))).mono ?_; rintro e w1 ⟨rfl, hb1⟩; have HB1 := Lib.hid hb1; clear hb1)
          exact ⟨_, Left.after HB1.out (Left.refl (by have := HB1.out.size; simp; omega)), rfl, H0.out.below HB1.out, H1.out.below HB1.out, H2.out.below HB1.out, HM2.out⟩
        | true =>
          rw [hin] at CP HM
          have HM2 : Hid (metB l x (m + 1) = some p.n) := HM.out.trans (if_pos rfl)
          clear HM
          gi_wp2_with (refine ⟨trivial, rfl, ?_⟩; gi_at_call 20; refine (CallsIn.inRound lp (callsIn_wide.2 (CP.out _))).mono ?_; rintro e w1 ⟨rfl, hb1⟩; have HB1 := Lib.hid hb1; have e2 := (hb1.cell (p := ⟨W0.heap.size, 2, none⟩) hlw).trans p2; have f1 := (H1.out.below hb1).val; have f2 := (H1.out.below hb1).free; have f3 := (H2.out.below hb1).val; have f4 := (H2.out.below hb1).free; clear hb1)
          have T2 : Touch [W.heap.size + 1, W.heap.size + 1 + 1] V3 ((w1.setCell ⟨W.heap.size + 1, 0, none⟩ (.int .i64 p.n)).setCell ⟨W.heap.size + 1 + 1, 0, none⟩ (.bool true)) := ((Touch.ofBelow HB1.out).set (.inl (by simp)) _).set (.inl (by simp)) _
          refine ⟨_, ⟨⟨_, T2, fun q hq => ⟨by simp at hq ⊢; omega, fun z => ?_⟩⟩, fun q hq => ⟨?_, .inl hq⟩⟩, rfl, rfl, p.n, ((H1.out.below HB1.out).set _).other (by omega) _ _, ((H2.out.below HB1.out).other (by omega) _ _).set _, metB_over HM2.out⟩
          · rcases List.mem_cons.1 z with rfl | z
            · simp at hq
              omega
            · have := HOWN.out q (Option.mem_toList.1 z)
              simp at hq
              omega
          · have := T2.size
            simp at hq
            omega
      case done =>
        rintro D V3 Y hD hDn hL ⟨rfl, h0, h1, h2, h3⟩ hK
        have HB4 : Hid (Below W.heap.size W V3) := Left.new HBV.out hL (by simp; omega)
        have HD2 : Hid ((D :: Ds).Nodup ∧ ∀ E ∈ D :: Ds, W.heap.size + 3 ≤ E ∧ V3.heap[E]? = some (.deferred (some []))) := by
          refine ⟨List.nodup_cons.2 ⟨fun z => ?_, HDS.out.1⟩, fun E hE => ?_⟩
          · have := (Array.getElem?_eq_some_iff.1 (HDS.out.2 D z).2).1
            omega
          · rcases List.mem_cons.1 hE with rfl | hE
            · exact ⟨by omega, hK⟩
            · obtain ⟨x1, x3⟩ := HDS.out.2 E hE
              have hlt' := (Array.getElem?_eq_some_iff.1 x3).1
              exact ⟨x1, (hL.away (by omega) (by simp; omega)).2.2.trans ((HBN.out.block E hlt').trans x3)⟩
        have HOV2 : Hid (overL (agesL (i + 1) (S.drop (i + 1))) x = o) := by
          have z := HST2.out
          rw [metB_all l x _ (by simp)] at h3
          rw [h3, Option.none_or] at z
          exact z.symm
        have hsz := hL.size
        have H0 := Lib.hid h0
        have H1 := Lib.hid h1
        have H2 := Lib.hid h2
        have i2 : IntKind.i64.wrap ((i : Int) + 1) = (i + 1 : Nat) := by rw [IntKind.wrap_i64]; omega
        clear h0 h1 h2 h3 hL hK hDn
        gi_wp2
        refine ⟨⟨i + 1, D :: Ds, _, _, _, _, _, _, rfl, by omega, HOV2, HB4, by omega, H0, H1, H2, HD2⟩, ?_⟩
        simp [intOf]
        omega
      case stop =>
        rintro D cd V3 Y hD hDn hL ⟨rfl, rfl, nd, h1, h2, h3⟩ hK
        have HB4 : Hid (Below W.heap.size W V3) := Left.new HBV.out hL (by simp; omega)
        have HD2 : Hid ((D :: Ds).Nodup ∧ ∀ E ∈ D :: Ds, W.heap.size + 3 ≤ E ∧ V3.heap[E]? = some (.deferred (some []))) := by
          refine ⟨List.nodup_cons.2 ⟨fun z => ?_, HDS.out.1⟩, fun E hE => ?_⟩
          · have := (Array.getElem?_eq_some_iff.1 (HDS.out.2 D z).2).1
            omega
          · rcases List.mem_cons.1 hE with rfl | hE
            · exact ⟨by omega, hK⟩
            · obtain ⟨x1, x3⟩ := HDS.out.2 E hE
              have hlt' := (Array.getElem?_eq_some_iff.1 x3).1
              exact ⟨x1, (hL.away (by omega) (by simp; omega)).2.2.trans ((HBN.out.block E hlt').trans x3)⟩
        obtain rfl : o = some nd := by
          have z := HST2.out
          rw [h3, Option.some_or] at z
          exact z
        have c1 := h1.val
        have c2 := h2.val
        clear h1 h2 h3 hL hK hDn
        gi_wp2
        refine wpIn_wide.2 ?_
        go_region
        gi_wp2
        rw [Exit.noGoto_ret]
        exact leaves_marks (D :: Ds) V3.drew HD2.out.1 (fun E hE => (HD2.out.2 E hE).2) (fun V' tt => ⟨_, results_tmp2 rfl _ _ _, rfl, Touch.acc HB4.out.drew tt (fun E hE => by have := (HD2.out.2 E hE).1; omega)⟩)
    · obtain rfl : i = 40 := by omega
      have t1 : decide (40 < 40) = false := by simp
      obtain rfl : o = none := by
        have z := HOV.out
        rw [List.drop_eq_nil_of_le (by rw [HL.out]; exact Nat.le_refl _)] at z
        exact z.symm
      have c1 := HV1.out.val
      have c2 := HV2.out.val
      gi_wp2
      refine wpIn_wide.2 ?_
      go_region
      gi_wp2
      rw [Exit.noGoto_ret]
      exact leaves_marks Ds V.drew HDS.out.1 (fun E hE => (HDS.out.2 E hE).2) (fun V' tt => ⟨_, results_tmp2 rfl _ _ _, rfl, Touch.acc HB.out.drew tt (fun E hE => by have := (HDS.out.2 E hE).1; omega)⟩)
theorem gateWhere_nil (x : Nat) (w : World) : Calls Try.prog 16 #[.pointer none, .int .u64 (x : Nat)] w fun e w' => e = .returned (.tuple #[.int .i64 0, .bool false]) ∧ Below w.heap.size w w' := by
  go_enter Try.func16, Try.ntmps16
  go_wp2
  refine wp_scope_straight ?_
  go_wp2
  rw [Exit.noGoto_ret]
  refine bodyPost_ret (results_tmp2 rfl _ _ _) rfl ?_
  exact ⟨rfl, (Below.refl _ _).alloc (Nat.le_refl _) _⟩
end Go.Proofs.Ytompbhkmaalioaa
