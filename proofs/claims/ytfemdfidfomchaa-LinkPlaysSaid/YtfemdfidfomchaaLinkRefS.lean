/-
  The document's Send. (Its regions by tools/genLKRef.py.)
-/
import Derived.Test.YtfemdfidfomchaaLinkRef
import Derived.Test.YtfemdfidfomchaaLinkSend
import Derived.Test.YtfemdfidfomchaaHeldTill
import Derived.Deep.MidRow
namespace Go.Proofs.Ytfemdfidfomchaa
open Go.RowKit

theorem run_load_mid {P : Program} {op : Oper} {a : Act} {w : World} (ty : TypeId) (x : Operand) (ho : op.op = .load ty x)
    (b o : Nat) (hx : a.eval x = .pointer (some ⟨b, o, none⟩)) (cs : Array Value) (d : TypeDesc) (hc : w.rangeAt b o cs.toList)
    (hu : P.underlying ty = some d) (hd : d.isRow = true) (hi : (P.info? ty).map (·.size) = some cs.toList.length) : (execOp a.eval op).run P w = .ok (.value (.agg cs)) w := by
  unfold execOp
  simp only [ho, hx, Instr.loadAt, Instr.sureAddr, Sem.run_bind, Sem.run_pure, Result.andThen_ok, run_loadVar_mid w b o ty cs.toList d hc hu hd hi, Array.toArray_toList]
abbrev lk_zo : Array Value := oE (0, 0, LR.light 0 0)
theorem lk_infoO : ∃ i, Try.prog.info? 83 = some i ∧ i.zero = some (.agg lk_zo) ∧ i.size = 23 ∧ i.bytes = 256 := by
  have h : (Try.prog.info? 83).map (fun i => (i.zero, i.size, i.bytes)) = some (some (.agg lk_zo), 23, 256) := by kernel_rfl
  obtain ⟨i, hi, hx⟩ := Option.map_eq_some_iff.1 h
  simp only [Prod.mk.injEq] at hx
  exact ⟨i, hi, hx⟩
theorem oE_one {x : Nat × Nat × LR} (h : x.2.2.sl) : (oE x).all (·.oneCell') = true := by
  obtain ⟨⟨A, n, c, h1⟩, B, m, d, h2⟩ := h
  simp [oE, Value.oneCell', h1, h2]
theorem row_new_at {α : Type} {w : World} {q : Nat} {cs : Array Value} {T : TypeId} {enc : α → Array Value} {x : α} (hq : w.heap[q]? = some (.cells cs T)) (h : enc x = cs := by rfl) : ∀ j u, (rowC enc [x])[j]? = some u → w.cell? ((⟨q, 0, none⟩ : Addr).add j) = some u := by
  subst h
  intro j u hj
  rw [rowC_one1, Array.getElem?_toList] at hj
  rw [Go.WideShapes.add_plain, Nat.zero_add]
  exact bg_cell hq hj
set_option maxRecDepth 20000 in
set_option maxHeartbeats 600000 in
theorem refSend_any {W : World} {g : Nat} {s : RL} {V K : Value} (h : RLX W g s V K) (hsent : s.sent ≤ 1000000) (hlen : s.out.length ≤ 1000000) (hlo : ∀ x ∈ s.out, x.2.2.sl) (r : LR) (hr : r.sl) :
    Calls Try.prog 14 #[.pointer (some ⟨g, 0, none⟩), .agg r.cells] W fun e w' => ∃ V', e = .returned (.agg (PR.mk s.me s.peer ((s.sent : Int) + 1) s.came r).cells) ∧ Touch [g] W w' ∧ RLX w' g {s with sent := s.sent + 1, out := s.out ++ [(s.sent + 1, s.now, r)]} V' K ∧ ∀ q, V'.ownBlock = some q → W.heap.size ≤ q := by
  obtain ⟨i0, hi0, hz0, hs0, hb0⟩ := lk_infoO
  have B2 : Below W.heap.size W ((W.alloc (.cells r.cells 51)).alloc (.cells (lpCells 0 0 0 0 0 0) 53)) := ((Below.refl _ _).alloc (Nat.le_refl _) _).alloc (by simp) _
  have b1 : ((W.alloc (.cells r.cells 51)).alloc (.cells (lpCells 0 0 0 0 0 0) 53)).heap[W.heap.size]? = some (.cells r.cells 51) := (Lib.alloc_old _ _ _ (by simp)).trans (heap_alloc_new W _)
  have b2 : ((W.alloc (.cells r.cells 51)).alloc (.cells (lpCells 0 0 0 0 0 0) 53)).heap[W.heap.size + 1]? = some (.cells (lpCells 0 0 0 0 0 0) 53) := by
    have := heap_alloc_new (W.alloc (.cells r.cells 51)) (.cells (lpCells 0 0 0 0 0 0) 53)
    simpa using this
  obtain ⟨n, hn⟩ : ∃ n, s.out.length = n := ⟨_, rfl⟩
  have hv := h.v
  rw [hn] at hv hlen
  obtain ⟨A, c, rfl⟩ := own_slice hv
  have hgl : g < W.heap.size := bg_lt h.hg
  obtain ⟨w2, hw2⟩ : ∃ w2, (W.alloc (.cells r.cells 51)).alloc (.cells (lpCells 0 0 0 0 0 0) 53) = w2 := ⟨_, rfl⟩
  rw [hw2] at B2 b1 b2
  have hg2 := (B2.block g hgl).trans h.hg
  have c2 : w2.cell? ⟨g, 2, none⟩ = some (.int .i64 (s.sent : Nat)) := bg_cell hg2 rfl
  have f2 : w2.frozen? ⟨g, 2, none⟩ = false := Lib.frozen_of_heap hg2 2
  have hz : IntKind.i64.wrap ((s.sent : Int) + 1) = (s.sent : Int) + 1 := by rw [IntKind.wrap_i64]; omega
  go_enter Try.func14, Try.ntmps14
  go_upto_region 1 with fail
  clear hw2
  go_upto_region 2 with fail
  obtain ⟨w3, hw3⟩ : ∃ w3, w2.setCell ⟨g, 2, none⟩ (.int .i64 ((s.sent : Int) + 1)) = w3 := ⟨_, rfl⟩
  have T3 : Touch [g] w2 w3 := by rw [← hw3]; exact (Touch.refl _ _).set (.inl (by simp)) _
  have h3 : w3.heap[g]? = some (.cells (rlCells {s with sent := s.sent + 1} (.slice A n c) K) 30) := by
    rw [← hw3]
    simp [World.setCell, Array.getElem?_modify, hg2]
  rw [hw3]
  clear hw3
  have y1 := (T3.block W.heap.size (bg_lt b1) (by simp; omega)).trans b1
  have y2 := (T3.block (W.heap.size + 1) (bg_lt b2) (by simp; omega)).trans b2
  have hVg : ∀ q, (Value.slice A n c).ownBlock = some q → q ≠ g := h.gv
  have HV3 := Lib.hid (T3.row (lk_below hv B2) (fun q hq z => by have := hVg q hq; simp at z; omega))
  have hg3 := bg_lt h3
  have hy3 := bg_lt y1
  have HSS : Hid (∀ w', Below w3.heap.size w3 w' → (w'.cell? ⟨g, 3, none⟩ = some (.slice A n c) ∧ w'.cell? ⟨g, 2, none⟩ = some (.int .i64 ((s.sent : Int) + 1)) ∧ w'.cell? ⟨g, 6, none⟩ = some (.int .i64 (s.now : Nat))) ∧ w'.rangeAt W.heap.size 0 r.cells.toList) := fun w' hb => by
    have e := (hb.block g hg3).trans h3
    have e1 := (hb.block W.heap.size hy3).trans y1
    refine ⟨⟨bg_cell e rfl, bg_cell e rfl, bg_cell e rfl⟩, fun j v hj => ?_⟩
    rw [Nat.zero_add]
    rw [Array.getElem?_toList] at hj
    exact bg_cell e1 hj
  have HFR : Hid (∀ w', Below w3.heap.size w3 w' → w'.frozen? ⟨g, 3, none⟩ = false) := fun w' hb => Lib.frozen_of_heap ((hb.block g hg3).trans h3) 3
  have HOS := Lib.hid hlo
  have HOR : Hid ((oE (s.sent + 1, s.now, r)).all (·.oneCell') = true) := oE_one hr
  have hLI : (Try.prog.info? 51).map (·.size) = some r.cells.toList.length := by kernel_rfl
  have H := Lib.hid h
  have HN := Lib.hid hn
  have H3 := Lib.hid h3
  have HT3 := Lib.hid T3
  have HB2 := Lib.hid B2
  have HY1 := Lib.hid y1
  have HY2 := Lib.hid y2
  have hsg : ¬W.heap.size = g := by omega
  have hsg2 : g < W.heap.size := hgl
  clear h hv hgl b1 b2 B2 hg2 c2 f2 T3 h3 y1 y2 hVg hlo hn
  refine wp_region_till (fun w' => (w'.cell? ⟨g, 3, none⟩ = some (.slice A n c) ∧ w'.cell? ⟨g, 2, none⟩ = some (.int .i64 ((s.sent : Int) + 1)) ∧ w'.cell? ⟨g, 6, none⟩ = some (.int .i64 (s.now : Nat))) ∧ w'.rangeAt W.heap.size 0 r.cells.toList) 20 (by kernel_rfl) ?_ (fun hHeld => ?_)
  · (try dsimp only); exact HSS.out _ (Below.refl _ _).drew
  refine wpAnyT_pure (i := 0) (oi := ⟨_, _, _, _, _, _⟩) (v := ?_) rfl (by kernel_rfl) (by kernel_rfl) (by kernel_rfl) (fun _ _ _ h => h) (by kernel_rfl) (Or.inl ⟨by rfl, ?_⟩) (by assumption) ?_
  rotate_left
  · (intro wS hSw; (try dsimp only at hSw); go_simp <;> with_reducible rfl)
  try simp only [Act.put, List.setIfInBounds_toArray, List.set_cons_zero, List.set_cons_succ]
  refine wpAnyT_pure (i := 1) (oi := ⟨_, _, _, _, _, _⟩) (v := ?_) rfl (by kernel_rfl) (by kernel_rfl) (by kernel_rfl) (fun _ _ _ h => h) (by kernel_rfl) (Or.inl ⟨by rfl, ?_⟩) (by assumption) ?_
  rotate_left
  · (intro wS hSw; (try dsimp only at hSw); go_simp <;> with_reducible rfl)
  try simp only [Act.put, List.setIfInBounds_toArray, List.set_cons_zero, List.set_cons_succ]
  refine wpAnyT_pure (i := 2) (oi := ⟨_, _, _, _, _, _⟩) (v := ?_) rfl (by kernel_rfl) (by kernel_rfl) (by kernel_rfl) (fun _ _ _ h => h) (by kernel_rfl) (Or.inl ⟨by rfl, ?_⟩) (by assumption) ?_
  rotate_left
  · (intro wS hSw; (try dsimp only at hSw); go_simp <;> with_reducible rfl)
  try simp only [Act.put, List.setIfInBounds_toArray, List.set_cons_zero, List.set_cons_succ]
  refine wpAnyT_pure (i := 3) (oi := ⟨_, _, _, _, _, _⟩) (v := ?_) rfl (by kernel_rfl) (by kernel_rfl) (by kernel_rfl) (fun _ _ _ h => h) (by kernel_rfl) (Or.inl ⟨by rfl, ?_⟩) (by assumption) ?_
  rotate_left
  · (intro wS hSw; (try dsimp only at hSw); go_simp <;> with_reducible rfl)
  try simp only [Act.put, List.setIfInBounds_toArray, List.set_cons_zero, List.set_cons_succ]
  refine wpAnyT_pure (i := 6) (oi := ⟨_, _, _, _, _, _⟩) (v := ?_) rfl (by kernel_rfl) (by kernel_rfl) (by kernel_rfl) (fun _ _ _ h => h) (by kernel_rfl) (Or.inl ⟨by rfl, ?_⟩) (by assumption) ?_
  rotate_left
  · (intro wS hSw; (try dsimp only at hSw); go_simp <;> with_reducible rfl)
  try simp only [Act.put, List.setIfInBounds_toArray, List.set_cons_zero, List.set_cons_succ]
  refine wpAnyT_pure (i := 7) (oi := ⟨_, _, _, _, _, _⟩) (v := ?_) rfl (by kernel_rfl) (by kernel_rfl) (by kernel_rfl) (fun _ _ _ h => h) (by kernel_rfl) (Or.inl ⟨by rfl, ?_⟩) (by assumption) ?_
  rotate_left
  · (intro wS hSw; (try dsimp only at hSw); go_simp <;> with_reducible rfl)
  try simp only [Act.put, List.setIfInBounds_toArray, List.set_cons_zero, List.set_cons_succ]
  refine wpAnyT_pure (i := 8) (oi := ⟨_, _, _, _, _, _⟩) (v := ?_) rfl (by kernel_rfl) (by kernel_rfl) (by kernel_rfl) (fun _ _ _ h => h) (by kernel_rfl) (Or.inl ⟨by rfl, ?_⟩) (by assumption) ?_
  rotate_left
  · (intro wS hSw; (try dsimp only at hSw); go_simp <;> with_reducible rfl)
  try simp only [Act.put, List.setIfInBounds_toArray, List.set_cons_zero, List.set_cons_succ]
  refine wpAnyT_pure (i := 10) (oi := ⟨_, _, _, _, _, _⟩) (v := ?_) rfl (by kernel_rfl) (by kernel_rfl) (by kernel_rfl) (fun _ _ _ h => h) (by kernel_rfl) (Or.inl ⟨by rfl, ?_⟩) (by assumption) ?_
  rotate_left
  · (intro wS hSw; (try dsimp only at hSw); go_simp <;> with_reducible rfl)
  try simp only [Act.put, List.setIfInBounds_toArray, List.set_cons_zero, List.set_cons_succ]
  refine wpAnyT_pure (i := 11) (oi := ⟨_, _, _, _, _, _⟩) (v := ?_) rfl (by kernel_rfl) (by kernel_rfl) (by kernel_rfl) (fun _ _ _ h => h) (by kernel_rfl) (Or.inl ⟨by rfl, ?_⟩) (by assumption) ?_
  rotate_left
  · (intro wS hSw; (try dsimp only at hSw); go_simp <;> with_reducible rfl)
  try simp only [Act.put, List.setIfInBounds_toArray, List.set_cons_zero, List.set_cons_succ]
  refine wpAnyT_pure (i := 12) (oi := ⟨_, _, _, _, _, _⟩) (v := ?_) rfl (by kernel_rfl) (by kernel_rfl) (by kernel_rfl) (fun _ _ _ h => h) (by kernel_rfl) (Or.inl ⟨by rfl, ?_⟩) (by assumption) ?_
  rotate_left
  · (intro wS hSw; (try dsimp only at hSw); go_simp <;> with_reducible rfl)
  try simp only [Act.put, List.setIfInBounds_toArray, List.set_cons_zero, List.set_cons_succ]
  refine wpAnyT_take (i := 4) (oi := ⟨_, _, _, _, _, _⟩) (v := ?_) rfl (by kernel_rfl) (by kernel_rfl) (by kernel_rfl) (fun _ _ _ h => h) (by kernel_rfl) (Or.inl ⟨by rfl, ?_⟩) (by assumption) ?_
  rotate_left
  · (intro wS hSw; (try dsimp only at hSw); go_simp <;> with_reducible rfl)
  try simp only [Act.put, List.setIfInBounds_toArray, List.set_cons_zero, List.set_cons_succ]
  refine wpAnyT_take (i := 9) (oi := ⟨_, _, _, _, _, _⟩) (v := ?_) rfl (by kernel_rfl) (by kernel_rfl) (by kernel_rfl) (fun _ _ _ h => h) (by kernel_rfl) (Or.inl ⟨by rfl, ?_⟩) (by assumption) ?_
  rotate_left
  · (intro wS hSw; (try dsimp only at hSw); go_simp <;> with_reducible rfl)
  try simp only [Act.put, List.setIfInBounds_toArray, List.set_cons_zero, List.set_cons_succ]
  refine wpAnyT_take (i := 13) (oi := ⟨_, _, _, _, _, _⟩) (v := ?_) rfl (by kernel_rfl) (by kernel_rfl) (by kernel_rfl) (fun _ _ _ h => h) (by kernel_rfl) (Or.inl ⟨by rfl, ?_⟩) (by assumption) ?_
  rotate_left
  · (intro wS hSw; (try dsimp only at hSw); go_simp <;> with_reducible rfl)
  try simp only [Act.put, List.setIfInBounds_toArray, List.set_cons_zero, List.set_cons_succ]
  refine wpAnyT_take (i := 14) (oi := ⟨_, _, _, _, _, _⟩) (v := .agg r.cells.toList.toArray) rfl (by kernel_rfl) (by kernel_rfl) (by kernel_rfl) (fun _ _ _ h => h) (by kernel_rfl) (yieldsIf_load_mid (by rfl) 51 (.tmp 3) rfl W.heap.size 0 rfl r.cells.toList _ (fun _ h => h.2) Try.underlying51 rfl hLI) (by assumption) ?_
  try simp only [Act.put, List.setIfInBounds_toArray, List.set_cons_zero, List.set_cons_succ]
  try simp only [Array.toArray_toList]
  refine wpAnyT_ready (rs := [5, 15]) (by kernel_rfl) (by simp) ?_
  refine (AllReadyT.cons (o := ⟨_, _, _, _, _, _⟩) rfl (fun K hK => ?_) (AllReadyT.cons (o := ⟨_, _, _, _, _, _⟩) rfl (fun K hK => ?_) AllReadyT.nil))
  · refine step_append_any rfl (.const (.slice none 0 0)) (.tmp 16) 27 rfl 0 83 i0 (.agg lk_zo) 23 256 Try.underlying27 hi0 hz0 hs0 hb0 rfl (by decide) (.slice none 0 0) 0 [] rfl (World.ownsRow_nil _ _ _ _) (.slice A n c) n (rowC oE s.out) rfl (From.own (lk_below HV3.out ((Below.refl _ w3).drew))) (rowC_all (enc := oE) (l := s.out) fun x hx => oE_one (HOS.out x hx)) (by unfold maxLen; omega) (by omega) (Nat.zero_le _) ?_
    intro A4 c4 w4 ho4 hg4 hs4
    simp only [Nat.zero_add, List.nil_append] at ho4 hs4 ⊢
    have HB4 : Hid (Below w3.heap.size w3 w4) := ((Below.refl _ w3).drew).grown hg4 (by simp) (fun z hz => by cases hz)
    have hS4 := HSS.out w4 HB4.out
    have hN4 : ∀ q, (Value.slice A4 n c4).ownBlock = some q → w3.heap.size ≤ q := fun q hq => by
      rcases hs4 q hq with z | z
      · cases z
      · (try simp at z ⊢); omega
    have HN4 := Lib.hid hN4
    have HO4 := Lib.hid ho4
    have hS4b := HSS.out _ (HB4.out.alloc HB4.out.size (.cells (oE (s.sent + 1, s.now, r)) 83))
    clear ho4 hg4 hs4 hN4
    refine hK.out _ _ (by (try dsimp only); first | assumption | exact HSS.out _ (Below.refl _ _).drew) (fun hHeld => ?_)
    clear hK K
    try simp only [Act.put, List.setIfInBounds_toArray, List.set_cons_zero, List.set_cons_succ]
    refine wpAnyT_ready (rs := [15]) (by kernel_rfl) (by simp) ?_
    refine (AllReadyT.cons (o := ⟨_, _, _, _, _, _⟩) rfl (fun K hK => ?_) AllReadyT.nil)
    go_simp
    refine hK.out _ _ (by (try dsimp only); first | assumption | exact HSS.out _ (Below.refl _ _).drew) (fun hHeld => ?_)
    clear hK K
    try simp only [Act.put, List.setIfInBounds_toArray, List.set_cons_zero, List.set_cons_succ]
    refine wpAnyT_ready (rs := [16]) (by kernel_rfl) (by simp) ?_
    refine (AllReadyT.cons (o := ⟨_, _, _, _, _, _⟩) rfl (fun K hK => ?_) AllReadyT.nil)
    go_simp
    refine hK.out _ _ (by (try dsimp only); first | assumption | exact HSS.out _ (Below.refl _ _).drew) (fun hHeld => ?_)
    clear hK K
    try simp only [Act.put, List.setIfInBounds_toArray, List.set_cons_zero, List.set_cons_succ]
    refine wpAnyT_ready (rs := [17]) (by kernel_rfl) (by simp) ?_
    refine (AllReadyT.cons (o := ⟨_, _, _, _, _, _⟩) rfl (fun K hK => ?_) AllReadyT.nil)
    refine step_append_any rfl (.tmp 17) (.tmp 28) 27 rfl 0 83 i0 (.agg lk_zo) 23 256 Try.underlying27 hi0 hz0 hs0 hb0 rfl (by decide) (.slice A4 n c4) n (rowC oE s.out) rfl (HO4.out.alloc _) (.slice (some ⟨w4.heap.size, 0, none⟩) 1 1) 1 (rowC oE [(s.sent + 1, s.now, r)]) rfl (.inr ⟨⟨w4.heap.size, 0, none⟩, 1, rfl, rfl, lk_new_row w4 (oE (s.sent + 1, s.now, r)) _⟩) (rowC_all (enc := oE) (l := [(s.sent + 1, s.now, r)]) (fun x hx => by simp at hx; subst hx; exact HOR.out)) (by unfold maxLen; omega) (by omega) (Nat.zero_le _) ?_
    intro A5 c5 w5 ho5 hg5 hs5
    have HB5 : Hid (Below w3.heap.size w3 w5) := (HB4.out.alloc HB4.out.size _).grown hg5 (by have := HB4.out.size; (try simp); omega) (fun z hz => by have := HN4.out z hz; (try simp at this); omega)
    have hS5 := HSS.out w5 HB5.out
    have HO5 := Lib.hid ho5
    have HN5 : Hid (∀ q, (Value.slice A5 (n + 1) c5).ownBlock = some q → w3.heap.size ≤ q) := fun q hq => by
      rcases hs5 q hq with z | z
      · have := HN4.out q z; (try simp at this); omega
      · have := HB4.out.size; (try simp at z); omega
    clear ho5 hg5 hs5
    refine hK.out _ _ (by (try dsimp only); first | assumption | exact HSS.out _ (Below.refl _ _).drew) (fun hHeld => ?_)
    clear hK K
    try simp only [Act.put, List.setIfInBounds_toArray, List.set_cons_zero, List.set_cons_succ]
    refine wpAnyT_pure (i := 18) (oi := ⟨_, _, _, _, _, _⟩) (v := ?_) rfl (by kernel_rfl) (by kernel_rfl) (by kernel_rfl) (fun _ _ _ h => h) (by kernel_rfl) (Or.inl ⟨by rfl, ?_⟩) (by assumption) ?_
    rotate_left
    · (intro wS hSw; (try dsimp only at hSw); go_simp <;> with_reducible rfl)
    try simp only [Act.put, List.setIfInBounds_toArray, List.set_cons_zero, List.set_cons_succ]
    refine wpAnyT_pure (i := 19) (oi := ⟨_, _, _, _, _, _⟩) (v := ?_) rfl (by kernel_rfl) (by kernel_rfl) (by kernel_rfl) (fun _ _ _ h => h) (by kernel_rfl) (Or.inl ⟨by rfl, ?_⟩) (by assumption) ?_
    rotate_left
    · (intro wS hSw; (try dsimp only at hSw); go_simp <;> with_reducible rfl)
    try simp only [Act.put, List.setIfInBounds_toArray, List.set_cons_zero, List.set_cons_succ]
    refine wpAnyT_ready (rs := [20]) (by kernel_rfl) (by simp) ?_
    refine (AllReadyT.past (o := ⟨_, _, _, _, _, _⟩) rfl (by kernel_rfl) (fun K hK => ?_) AllReadyT.nil)
    have f3 : w5.frozen? ⟨g, 3, none⟩ = false := HFR.out w5 HB5.out
    go_simp
    refine hK.out _ _ ?_
    clear hK K
    try simp only [Act.put, List.setIfInBounds_toArray, List.set_cons_zero, List.set_cons_succ]
    refine wpAnyT_done (by kernel_rfl) ?_ _
    obtain ⟨w6, hw6⟩ : ∃ w6, w5.setCell ⟨g, 3, none⟩ (.slice A5 (n + 1) c5) = w6 := ⟨_, rfl⟩
    have e5 := (HB5.out.block g (bg_lt H3.out)).trans H3.out
    have T6 : Touch [g] w5 w6 := by rw [← hw6]; exact (Touch.refl _ _).set (.inl (by simp)) _
    have h6 : w6.heap[g]? = some (.cells (rlCells {s with sent := s.sent + 1, out := s.out ++ [(s.sent + 1, s.now, r)]} (.slice A5 (n + 1) c5) K) 30) := by
      rw [← hw6]
      simp [World.setCell, Array.getElem?_modify, e5]
    rw [hw6]
    clear hw6
    have y1 := (T6.block W.heap.size (Nat.lt_of_lt_of_le (bg_lt HY1.out) HB5.out.size) (by simp; exact hsg)).trans ((HB5.out.block _ (bg_lt HY1.out)).trans HY1.out)
    have y2 := (T6.block (W.heap.size + 1) (Nat.lt_of_lt_of_le (bg_lt HY2.out) HB5.out.size) (by simp; omega)).trans ((HB5.out.block _ (bg_lt HY2.out)).trans HY2.out)
    have HSB : Hid ((w6.drew.cell? ⟨g, 0, none⟩ = some (.int .i64 s.me) ∧ w6.drew.cell? ⟨g, 1, none⟩ = some (.int .i64 s.peer) ∧ w6.drew.cell? ⟨g, 2, none⟩ = some (.int .i64 ((s.sent : Int) + 1)) ∧ w6.drew.cell? ⟨g, 4, none⟩ = some (.int .i64 (s.came : Nat))) ∧ w6.drew.rangeAt W.heap.size 0 r.cells.toList) := by
      refine ⟨⟨bg_cell h6 rfl, bg_cell h6 rfl, bg_cell h6 rfl, bg_cell h6 rfl⟩, fun j v hj => ?_⟩
      rw [Nat.zero_add]
      rw [Array.getElem?_toList] at hj
      exact bg_cell y1 hj
    have HY6 := Lib.hid y2
    have H6 := Lib.hid h6
    have HT6 := Lib.hid T6
    have HPO : Hid ((PR.mk s.me s.peer ((s.sent : Int) + 1) s.came r).cells.all (·.oneCell') = true) := PR.one hr
    clear y1 y2 h6 T6 e5
    go_upto_region 3 with fail
    refine wp_region_till (fun w' => (w'.cell? ⟨g, 0, none⟩ = some (.int .i64 s.me) ∧ w'.cell? ⟨g, 1, none⟩ = some (.int .i64 s.peer) ∧ w'.cell? ⟨g, 2, none⟩ = some (.int .i64 ((s.sent : Int) + 1)) ∧ w'.cell? ⟨g, 4, none⟩ = some (.int .i64 (s.came : Nat))) ∧ w'.rangeAt W.heap.size 0 r.cells.toList) 18 (by kernel_rfl) ?_ (fun hHeld => ?_)
    · (try dsimp only); exact HSB.out
    refine wpAnyT_pure (i := 0) (oi := ⟨_, _, _, _, _, _⟩) (v := ?_) rfl (by kernel_rfl) (by kernel_rfl) (by kernel_rfl) (fun _ _ _ h => h) (by kernel_rfl) (Or.inl ⟨by rfl, ?_⟩) (by assumption) ?_
    rotate_left
    · (intro wS hSw; (try dsimp only at hSw); go_simp <;> with_reducible rfl)
    try simp only [Act.put, List.setIfInBounds_toArray, List.set_cons_zero, List.set_cons_succ]
    refine wpAnyT_pure (i := 1) (oi := ⟨_, _, _, _, _, _⟩) (v := ?_) rfl (by kernel_rfl) (by kernel_rfl) (by kernel_rfl) (fun _ _ _ h => h) (by kernel_rfl) (Or.inl ⟨by rfl, ?_⟩) (by assumption) ?_
    rotate_left
    · (intro wS hSw; (try dsimp only at hSw); go_simp <;> with_reducible rfl)
    try simp only [Act.put, List.setIfInBounds_toArray, List.set_cons_zero, List.set_cons_succ]
    refine wpAnyT_pure (i := 2) (oi := ⟨_, _, _, _, _, _⟩) (v := ?_) rfl (by kernel_rfl) (by kernel_rfl) (by kernel_rfl) (fun _ _ _ h => h) (by kernel_rfl) (Or.inl ⟨by rfl, ?_⟩) (by assumption) ?_
    rotate_left
    · (intro wS hSw; (try dsimp only at hSw); go_simp <;> with_reducible rfl)
    try simp only [Act.put, List.setIfInBounds_toArray, List.set_cons_zero, List.set_cons_succ]
    refine wpAnyT_pure (i := 4) (oi := ⟨_, _, _, _, _, _⟩) (v := ?_) rfl (by kernel_rfl) (by kernel_rfl) (by kernel_rfl) (fun _ _ _ h => h) (by kernel_rfl) (Or.inl ⟨by rfl, ?_⟩) (by assumption) ?_
    rotate_left
    · (intro wS hSw; (try dsimp only at hSw); go_simp <;> with_reducible rfl)
    try simp only [Act.put, List.setIfInBounds_toArray, List.set_cons_zero, List.set_cons_succ]
    refine wpAnyT_pure (i := 5) (oi := ⟨_, _, _, _, _, _⟩) (v := ?_) rfl (by kernel_rfl) (by kernel_rfl) (by kernel_rfl) (fun _ _ _ h => h) (by kernel_rfl) (Or.inl ⟨by rfl, ?_⟩) (by assumption) ?_
    rotate_left
    · (intro wS hSw; (try dsimp only at hSw); go_simp <;> with_reducible rfl)
    try simp only [Act.put, List.setIfInBounds_toArray, List.set_cons_zero, List.set_cons_succ]
    refine wpAnyT_pure (i := 6) (oi := ⟨_, _, _, _, _, _⟩) (v := ?_) rfl (by kernel_rfl) (by kernel_rfl) (by kernel_rfl) (fun _ _ _ h => h) (by kernel_rfl) (Or.inl ⟨by rfl, ?_⟩) (by assumption) ?_
    rotate_left
    · (intro wS hSw; (try dsimp only at hSw); go_simp <;> with_reducible rfl)
    try simp only [Act.put, List.setIfInBounds_toArray, List.set_cons_zero, List.set_cons_succ]
    refine wpAnyT_pure (i := 8) (oi := ⟨_, _, _, _, _, _⟩) (v := ?_) rfl (by kernel_rfl) (by kernel_rfl) (by kernel_rfl) (fun _ _ _ h => h) (by kernel_rfl) (Or.inl ⟨by rfl, ?_⟩) (by assumption) ?_
    rotate_left
    · (intro wS hSw; (try dsimp only at hSw); go_simp <;> with_reducible rfl)
    try simp only [Act.put, List.setIfInBounds_toArray, List.set_cons_zero, List.set_cons_succ]
    refine wpAnyT_pure (i := 9) (oi := ⟨_, _, _, _, _, _⟩) (v := ?_) rfl (by kernel_rfl) (by kernel_rfl) (by kernel_rfl) (fun _ _ _ h => h) (by kernel_rfl) (Or.inl ⟨by rfl, ?_⟩) (by assumption) ?_
    rotate_left
    · (intro wS hSw; (try dsimp only at hSw); go_simp <;> with_reducible rfl)
    try simp only [Act.put, List.setIfInBounds_toArray, List.set_cons_zero, List.set_cons_succ]
    refine wpAnyT_pure (i := 10) (oi := ⟨_, _, _, _, _, _⟩) (v := ?_) rfl (by kernel_rfl) (by kernel_rfl) (by kernel_rfl) (fun _ _ _ h => h) (by kernel_rfl) (Or.inl ⟨by rfl, ?_⟩) (by assumption) ?_
    rotate_left
    · (intro wS hSw; (try dsimp only at hSw); go_simp <;> with_reducible rfl)
    try simp only [Act.put, List.setIfInBounds_toArray, List.set_cons_zero, List.set_cons_succ]
    refine wpAnyT_pure (i := 12) (oi := ⟨_, _, _, _, _, _⟩) (v := ?_) rfl (by kernel_rfl) (by kernel_rfl) (by kernel_rfl) (fun _ _ _ h => h) (by kernel_rfl) (Or.inl ⟨by rfl, ?_⟩) (by assumption) ?_
    rotate_left
    · (intro wS hSw; (try dsimp only at hSw); go_simp <;> with_reducible rfl)
    try simp only [Act.put, List.setIfInBounds_toArray, List.set_cons_zero, List.set_cons_succ]
    refine wpAnyT_pure (i := 13) (oi := ⟨_, _, _, _, _, _⟩) (v := ?_) rfl (by kernel_rfl) (by kernel_rfl) (by kernel_rfl) (fun _ _ _ h => h) (by kernel_rfl) (Or.inl ⟨by rfl, ?_⟩) (by assumption) ?_
    rotate_left
    · (intro wS hSw; (try dsimp only at hSw); go_simp <;> with_reducible rfl)
    try simp only [Act.put, List.setIfInBounds_toArray, List.set_cons_zero, List.set_cons_succ]
    refine wpAnyT_pure (i := 14) (oi := ⟨_, _, _, _, _, _⟩) (v := ?_) rfl (by kernel_rfl) (by kernel_rfl) (by kernel_rfl) (fun _ _ _ h => h) (by kernel_rfl) (Or.inl ⟨by rfl, ?_⟩) (by assumption) ?_
    rotate_left
    · (intro wS hSw; (try dsimp only at hSw); go_simp <;> with_reducible rfl)
    try simp only [Act.put, List.setIfInBounds_toArray, List.set_cons_zero, List.set_cons_succ]
    refine wpAnyT_take (i := 3) (oi := ⟨_, _, _, _, _, _⟩) (v := ?_) rfl (by kernel_rfl) (by kernel_rfl) (by kernel_rfl) (fun _ _ _ h => h) (by kernel_rfl) (Or.inl ⟨by rfl, ?_⟩) (by assumption) ?_
    rotate_left
    · (intro wS hSw; (try dsimp only at hSw); go_simp <;> with_reducible rfl)
    try simp only [Act.put, List.setIfInBounds_toArray, List.set_cons_zero, List.set_cons_succ]
    refine wpAnyT_take (i := 7) (oi := ⟨_, _, _, _, _, _⟩) (v := ?_) rfl (by kernel_rfl) (by kernel_rfl) (by kernel_rfl) (fun _ _ _ h => h) (by kernel_rfl) (Or.inl ⟨by rfl, ?_⟩) (by assumption) ?_
    rotate_left
    · (intro wS hSw; (try dsimp only at hSw); go_simp <;> with_reducible rfl)
    try simp only [Act.put, List.setIfInBounds_toArray, List.set_cons_zero, List.set_cons_succ]
    refine wpAnyT_take (i := 11) (oi := ⟨_, _, _, _, _, _⟩) (v := ?_) rfl (by kernel_rfl) (by kernel_rfl) (by kernel_rfl) (fun _ _ _ h => h) (by kernel_rfl) (Or.inl ⟨by rfl, ?_⟩) (by assumption) ?_
    rotate_left
    · (intro wS hSw; (try dsimp only at hSw); go_simp <;> with_reducible rfl)
    try simp only [Act.put, List.setIfInBounds_toArray, List.set_cons_zero, List.set_cons_succ]
    refine wpAnyT_take (i := 15) (oi := ⟨_, _, _, _, _, _⟩) (v := ?_) rfl (by kernel_rfl) (by kernel_rfl) (by kernel_rfl) (fun _ _ _ h => h) (by kernel_rfl) (Or.inl ⟨by rfl, ?_⟩) (by assumption) ?_
    rotate_left
    · (intro wS hSw; (try dsimp only at hSw); go_simp <;> with_reducible rfl)
    try simp only [Act.put, List.setIfInBounds_toArray, List.set_cons_zero, List.set_cons_succ]
    refine wpAnyT_take (i := 16) (oi := ⟨_, _, _, _, _, _⟩) (v := .agg r.cells.toList.toArray) rfl (by kernel_rfl) (by kernel_rfl) (by kernel_rfl) (fun _ _ _ h => h) (by kernel_rfl) (yieldsIf_load_mid (by rfl) 51 (.tmp 3) rfl W.heap.size 0 rfl r.cells.toList _ (fun _ h => h.2) Try.underlying51 rfl hLI) (by assumption) ?_
    try simp only [Act.put, List.setIfInBounds_toArray, List.set_cons_zero, List.set_cons_succ]
    try simp only [Array.toArray_toList]
    refine wpAnyT_ready (rs := [17]) (by kernel_rfl) (by simp) ?_
    refine (AllReadyT.cons (o := ⟨_, _, _, _, _, _⟩) rfl (fun K hK => ?_) AllReadyT.nil)
    go_simp
    refine hK.out _ _ (by (try dsimp only); first | assumption | exact HSB.out) (fun hHeld => ?_)
    clear hK K
    try simp only [Act.put, List.setIfInBounds_toArray, List.set_cons_zero, List.set_cons_succ]
    refine wpAnyT_ready (rs := [18]) (by kernel_rfl) (by simp) ?_
    refine (AllReadyT.past (o := ⟨_, _, _, _, _, _⟩) rfl (by kernel_rfl) (fun K hK => ?_) AllReadyT.nil)
    refine lk_step_store_row rfl 53 (.tmp 4) (.tmp 49) rfl (W.heap.size + 1) (PR.mk s.me s.peer ((s.sent : Int) + 1) s.came r).cells rfl rfl 53 (lpCells 0 0 0 0 0 0) HY6.out bg_infoP rfl HPO.out ?_
    refine hK.out _ _ ?_
    clear hK K
    try simp only [Act.put]
    refine wpAnyT_done (by kernel_rfl) ?_ _
    go_wp2_with fail
    refine bodyPost_ret (bg_result1 rfl _ _ (W.heap.size + 1) (PR.mk s.me s.peer ((s.sent : Int) + 1) s.came r).cells rfl rfl (bg_row _ HY6.out)) rfl ?_
    have T7 : Touch [W.heap.size + 1] w6 _ := ((Touch.refl [W.heap.size + 1] w6).drew).trans (bg_touch w6.drew (W.heap.size + 1) (PR.mk s.me s.peer ((s.sent : Int) + 1) s.came r).cells) (fun x hx => .inl hx)
    have TA : Touch [g] W w5 := ((Touch.ofBelow (F := [g]) HB2.out).trans HT3.out (fun x hx => .inl hx)).trans (Touch.ofBelow (F := []) HB5.out) (by simp)
    have TB : Touch [g] W w6 := TA.trans HT6.out (fun x hx => .inl hx)
    have TC := TB.trans T7 (fun x hx => .inr (by simp at hx; omega))
    refine ⟨rfl, TC, .slice A5 (n + 1) c5, ⟨(T7.block g (bg_lt H6.out) (by simp; omega)).trans H6.out, ?_, TC.row H.out.k (fun q hq z => by have := H.out.gk q hq; simp at z; omega), fun q hq => ?_, H.out.gk, fun q hq z => ?_⟩, fun q hq => ?_⟩
    · have h9 := T7.row (HT6.out.row HO5.out (fun q hq z => by have := HN5.out q hq; have := bg_lt H3.out; simp at z; omega)) (fun q hq z => by have := HN5.out q hq; have := bg_lt HY2.out; simp at z; omega)
      rw [← rowC_append] at h9
      show World.ownsRow _ 0 _ 23 _ (s.out ++ [(s.sent + 1, s.now, r)]).length _
      rw [List.length_append, HN.out]
      exact h9
    · have := HN5.out q hq; have := bg_lt H3.out; omega
    · have := HN5.out q hq; have := (H.out.k.lt q z).2; have := bg_lt HY1.out; omega
    · have := HN5.out q hq; have := bg_lt HY1.out; omega
  · go_simp
    refine hK.out _ _ (by (try dsimp only); first | assumption | exact HSS.out _ (Below.refl _ _).drew) (fun hHeld => ?_)
    clear hK K
    try simp only [Act.put, List.setIfInBounds_toArray, List.set_cons_zero, List.set_cons_succ]
    refine wpAnyT_ready (rs := [5, 16]) (by kernel_rfl) (by simp) ?_
    refine (AllReadyT.cons (o := ⟨_, _, _, _, _, _⟩) rfl (fun K hK => ?_) (AllReadyT.cons (o := ⟨_, _, _, _, _, _⟩) rfl (fun K hK => ?_) AllReadyT.nil))
    · refine step_append_any rfl (.const (.slice none 0 0)) (.tmp 16) 27 rfl 0 83 i0 (.agg lk_zo) 23 256 Try.underlying27 hi0 hz0 hs0 hb0 rfl (by decide) (.slice none 0 0) 0 [] rfl (World.ownsRow_nil _ _ _ _) (.slice A n c) n (rowC oE s.out) rfl (From.own (lk_below HV3.out ((Below.refl _ w3).drew))) (rowC_all (enc := oE) (l := s.out) fun x hx => oE_one (HOS.out x hx)) (by unfold maxLen; omega) (by omega) (Nat.zero_le _) ?_
      intro A4 c4 w4 ho4 hg4 hs4
      simp only [Nat.zero_add, List.nil_append] at ho4 hs4 ⊢
      have HB4 : Hid (Below w3.heap.size w3 w4) := ((Below.refl _ w3).drew).grown hg4 (by simp) (fun z hz => by cases hz)
      have hS4 := HSS.out w4 HB4.out
      have hN4 : ∀ q, (Value.slice A4 n c4).ownBlock = some q → w3.heap.size ≤ q := fun q hq => by
        rcases hs4 q hq with z | z
        · cases z
        · (try simp at z ⊢); omega
      have HN4 := Lib.hid hN4
      have HO4 := Lib.hid ho4
      have hS4b := HSS.out _ (HB4.out.alloc HB4.out.size (.cells (oE (s.sent + 1, s.now, r)) 83))
      clear ho4 hg4 hs4 hN4
      refine hK.out _ _ (by (try dsimp only); first | assumption | exact HSS.out _ (Below.refl _ _).drew) (fun hHeld => ?_)
      clear hK K
      try simp only [Act.put, List.setIfInBounds_toArray, List.set_cons_zero, List.set_cons_succ]
      refine wpAnyT_ready (rs := [16]) (by kernel_rfl) (by simp) ?_
      refine (AllReadyT.cons (o := ⟨_, _, _, _, _, _⟩) rfl (fun K hK => ?_) AllReadyT.nil)
      go_simp
      refine hK.out _ _ (by (try dsimp only); first | assumption | exact HSS.out _ (Below.refl _ _).drew) (fun hHeld => ?_)
      clear hK K
      try simp only [Act.put, List.setIfInBounds_toArray, List.set_cons_zero, List.set_cons_succ]
      refine wpAnyT_ready (rs := [17]) (by kernel_rfl) (by simp) ?_
      refine (AllReadyT.cons (o := ⟨_, _, _, _, _, _⟩) rfl (fun K hK => ?_) AllReadyT.nil)
      refine step_append_any rfl (.tmp 17) (.tmp 28) 27 rfl 0 83 i0 (.agg lk_zo) 23 256 Try.underlying27 hi0 hz0 hs0 hb0 rfl (by decide) (.slice A4 n c4) n (rowC oE s.out) rfl (HO4.out.alloc _) (.slice (some ⟨w4.heap.size, 0, none⟩) 1 1) 1 (rowC oE [(s.sent + 1, s.now, r)]) rfl (.inr ⟨⟨w4.heap.size, 0, none⟩, 1, rfl, rfl, lk_new_row w4 (oE (s.sent + 1, s.now, r)) _⟩) (rowC_all (enc := oE) (l := [(s.sent + 1, s.now, r)]) (fun x hx => by simp at hx; subst hx; exact HOR.out)) (by unfold maxLen; omega) (by omega) (Nat.zero_le _) ?_
      intro A5 c5 w5 ho5 hg5 hs5
      have HB5 : Hid (Below w3.heap.size w3 w5) := (HB4.out.alloc HB4.out.size _).grown hg5 (by have := HB4.out.size; (try simp); omega) (fun z hz => by have := HN4.out z hz; (try simp at this); omega)
      have hS5 := HSS.out w5 HB5.out
      have HO5 := Lib.hid ho5
      have HN5 : Hid (∀ q, (Value.slice A5 (n + 1) c5).ownBlock = some q → w3.heap.size ≤ q) := fun q hq => by
        rcases hs5 q hq with z | z
        · have := HN4.out q z; (try simp at this); omega
        · have := HB4.out.size; (try simp at z); omega
      clear ho5 hg5 hs5
      refine hK.out _ _ (by (try dsimp only); first | assumption | exact HSS.out _ (Below.refl _ _).drew) (fun hHeld => ?_)
      clear hK K
      try simp only [Act.put, List.setIfInBounds_toArray, List.set_cons_zero, List.set_cons_succ]
      refine wpAnyT_pure (i := 18) (oi := ⟨_, _, _, _, _, _⟩) (v := ?_) rfl (by kernel_rfl) (by kernel_rfl) (by kernel_rfl) (fun _ _ _ h => h) (by kernel_rfl) (Or.inl ⟨by rfl, ?_⟩) (by assumption) ?_
      rotate_left
      · (intro wS hSw; (try dsimp only at hSw); go_simp <;> with_reducible rfl)
      try simp only [Act.put, List.setIfInBounds_toArray, List.set_cons_zero, List.set_cons_succ]
      refine wpAnyT_pure (i := 19) (oi := ⟨_, _, _, _, _, _⟩) (v := ?_) rfl (by kernel_rfl) (by kernel_rfl) (by kernel_rfl) (fun _ _ _ h => h) (by kernel_rfl) (Or.inl ⟨by rfl, ?_⟩) (by assumption) ?_
      rotate_left
      · (intro wS hSw; (try dsimp only at hSw); go_simp <;> with_reducible rfl)
      try simp only [Act.put, List.setIfInBounds_toArray, List.set_cons_zero, List.set_cons_succ]
      refine wpAnyT_ready (rs := [20]) (by kernel_rfl) (by simp) ?_
      refine (AllReadyT.past (o := ⟨_, _, _, _, _, _⟩) rfl (by kernel_rfl) (fun K hK => ?_) AllReadyT.nil)
      have f3 : w5.frozen? ⟨g, 3, none⟩ = false := HFR.out w5 HB5.out
      go_simp
      refine hK.out _ _ ?_
      clear hK K
      try simp only [Act.put, List.setIfInBounds_toArray, List.set_cons_zero, List.set_cons_succ]
      refine wpAnyT_done (by kernel_rfl) ?_ _
      obtain ⟨w6, hw6⟩ : ∃ w6, w5.setCell ⟨g, 3, none⟩ (.slice A5 (n + 1) c5) = w6 := ⟨_, rfl⟩
      have e5 := (HB5.out.block g (bg_lt H3.out)).trans H3.out
      have T6 : Touch [g] w5 w6 := by rw [← hw6]; exact (Touch.refl _ _).set (.inl (by simp)) _
      have h6 : w6.heap[g]? = some (.cells (rlCells {s with sent := s.sent + 1, out := s.out ++ [(s.sent + 1, s.now, r)]} (.slice A5 (n + 1) c5) K) 30) := by
        rw [← hw6]
        simp [World.setCell, Array.getElem?_modify, e5]
      rw [hw6]
      clear hw6
      have y1 := (T6.block W.heap.size (Nat.lt_of_lt_of_le (bg_lt HY1.out) HB5.out.size) (by simp; exact hsg)).trans ((HB5.out.block _ (bg_lt HY1.out)).trans HY1.out)
      have y2 := (T6.block (W.heap.size + 1) (Nat.lt_of_lt_of_le (bg_lt HY2.out) HB5.out.size) (by simp; omega)).trans ((HB5.out.block _ (bg_lt HY2.out)).trans HY2.out)
      have HSB : Hid ((w6.drew.cell? ⟨g, 0, none⟩ = some (.int .i64 s.me) ∧ w6.drew.cell? ⟨g, 1, none⟩ = some (.int .i64 s.peer) ∧ w6.drew.cell? ⟨g, 2, none⟩ = some (.int .i64 ((s.sent : Int) + 1)) ∧ w6.drew.cell? ⟨g, 4, none⟩ = some (.int .i64 (s.came : Nat))) ∧ w6.drew.rangeAt W.heap.size 0 r.cells.toList) := by
        refine ⟨⟨bg_cell h6 rfl, bg_cell h6 rfl, bg_cell h6 rfl, bg_cell h6 rfl⟩, fun j v hj => ?_⟩
        rw [Nat.zero_add]
        rw [Array.getElem?_toList] at hj
        exact bg_cell y1 hj
      have HY6 := Lib.hid y2
      have H6 := Lib.hid h6
      have HT6 := Lib.hid T6
      have HPO : Hid ((PR.mk s.me s.peer ((s.sent : Int) + 1) s.came r).cells.all (·.oneCell') = true) := PR.one hr
      clear y1 y2 h6 T6 e5
      go_upto_region 3 with fail
      refine wp_region_till (fun w' => (w'.cell? ⟨g, 0, none⟩ = some (.int .i64 s.me) ∧ w'.cell? ⟨g, 1, none⟩ = some (.int .i64 s.peer) ∧ w'.cell? ⟨g, 2, none⟩ = some (.int .i64 ((s.sent : Int) + 1)) ∧ w'.cell? ⟨g, 4, none⟩ = some (.int .i64 (s.came : Nat))) ∧ w'.rangeAt W.heap.size 0 r.cells.toList) 18 (by kernel_rfl) ?_ (fun hHeld => ?_)
      · (try dsimp only); exact HSB.out
      refine wpAnyT_pure (i := 0) (oi := ⟨_, _, _, _, _, _⟩) (v := ?_) rfl (by kernel_rfl) (by kernel_rfl) (by kernel_rfl) (fun _ _ _ h => h) (by kernel_rfl) (Or.inl ⟨by rfl, ?_⟩) (by assumption) ?_
      rotate_left
      · (intro wS hSw; (try dsimp only at hSw); go_simp <;> with_reducible rfl)
      try simp only [Act.put, List.setIfInBounds_toArray, List.set_cons_zero, List.set_cons_succ]
      refine wpAnyT_pure (i := 1) (oi := ⟨_, _, _, _, _, _⟩) (v := ?_) rfl (by kernel_rfl) (by kernel_rfl) (by kernel_rfl) (fun _ _ _ h => h) (by kernel_rfl) (Or.inl ⟨by rfl, ?_⟩) (by assumption) ?_
      rotate_left
      · (intro wS hSw; (try dsimp only at hSw); go_simp <;> with_reducible rfl)
      try simp only [Act.put, List.setIfInBounds_toArray, List.set_cons_zero, List.set_cons_succ]
      refine wpAnyT_pure (i := 2) (oi := ⟨_, _, _, _, _, _⟩) (v := ?_) rfl (by kernel_rfl) (by kernel_rfl) (by kernel_rfl) (fun _ _ _ h => h) (by kernel_rfl) (Or.inl ⟨by rfl, ?_⟩) (by assumption) ?_
      rotate_left
      · (intro wS hSw; (try dsimp only at hSw); go_simp <;> with_reducible rfl)
      try simp only [Act.put, List.setIfInBounds_toArray, List.set_cons_zero, List.set_cons_succ]
      refine wpAnyT_pure (i := 4) (oi := ⟨_, _, _, _, _, _⟩) (v := ?_) rfl (by kernel_rfl) (by kernel_rfl) (by kernel_rfl) (fun _ _ _ h => h) (by kernel_rfl) (Or.inl ⟨by rfl, ?_⟩) (by assumption) ?_
      rotate_left
      · (intro wS hSw; (try dsimp only at hSw); go_simp <;> with_reducible rfl)
      try simp only [Act.put, List.setIfInBounds_toArray, List.set_cons_zero, List.set_cons_succ]
      refine wpAnyT_pure (i := 5) (oi := ⟨_, _, _, _, _, _⟩) (v := ?_) rfl (by kernel_rfl) (by kernel_rfl) (by kernel_rfl) (fun _ _ _ h => h) (by kernel_rfl) (Or.inl ⟨by rfl, ?_⟩) (by assumption) ?_
      rotate_left
      · (intro wS hSw; (try dsimp only at hSw); go_simp <;> with_reducible rfl)
      try simp only [Act.put, List.setIfInBounds_toArray, List.set_cons_zero, List.set_cons_succ]
      refine wpAnyT_pure (i := 6) (oi := ⟨_, _, _, _, _, _⟩) (v := ?_) rfl (by kernel_rfl) (by kernel_rfl) (by kernel_rfl) (fun _ _ _ h => h) (by kernel_rfl) (Or.inl ⟨by rfl, ?_⟩) (by assumption) ?_
      rotate_left
      · (intro wS hSw; (try dsimp only at hSw); go_simp <;> with_reducible rfl)
      try simp only [Act.put, List.setIfInBounds_toArray, List.set_cons_zero, List.set_cons_succ]
      refine wpAnyT_pure (i := 8) (oi := ⟨_, _, _, _, _, _⟩) (v := ?_) rfl (by kernel_rfl) (by kernel_rfl) (by kernel_rfl) (fun _ _ _ h => h) (by kernel_rfl) (Or.inl ⟨by rfl, ?_⟩) (by assumption) ?_
      rotate_left
      · (intro wS hSw; (try dsimp only at hSw); go_simp <;> with_reducible rfl)
      try simp only [Act.put, List.setIfInBounds_toArray, List.set_cons_zero, List.set_cons_succ]
      refine wpAnyT_pure (i := 9) (oi := ⟨_, _, _, _, _, _⟩) (v := ?_) rfl (by kernel_rfl) (by kernel_rfl) (by kernel_rfl) (fun _ _ _ h => h) (by kernel_rfl) (Or.inl ⟨by rfl, ?_⟩) (by assumption) ?_
      rotate_left
      · (intro wS hSw; (try dsimp only at hSw); go_simp <;> with_reducible rfl)
      try simp only [Act.put, List.setIfInBounds_toArray, List.set_cons_zero, List.set_cons_succ]
      refine wpAnyT_pure (i := 10) (oi := ⟨_, _, _, _, _, _⟩) (v := ?_) rfl (by kernel_rfl) (by kernel_rfl) (by kernel_rfl) (fun _ _ _ h => h) (by kernel_rfl) (Or.inl ⟨by rfl, ?_⟩) (by assumption) ?_
      rotate_left
      · (intro wS hSw; (try dsimp only at hSw); go_simp <;> with_reducible rfl)
      try simp only [Act.put, List.setIfInBounds_toArray, List.set_cons_zero, List.set_cons_succ]
      refine wpAnyT_pure (i := 12) (oi := ⟨_, _, _, _, _, _⟩) (v := ?_) rfl (by kernel_rfl) (by kernel_rfl) (by kernel_rfl) (fun _ _ _ h => h) (by kernel_rfl) (Or.inl ⟨by rfl, ?_⟩) (by assumption) ?_
      rotate_left
      · (intro wS hSw; (try dsimp only at hSw); go_simp <;> with_reducible rfl)
      try simp only [Act.put, List.setIfInBounds_toArray, List.set_cons_zero, List.set_cons_succ]
      refine wpAnyT_pure (i := 13) (oi := ⟨_, _, _, _, _, _⟩) (v := ?_) rfl (by kernel_rfl) (by kernel_rfl) (by kernel_rfl) (fun _ _ _ h => h) (by kernel_rfl) (Or.inl ⟨by rfl, ?_⟩) (by assumption) ?_
      rotate_left
      · (intro wS hSw; (try dsimp only at hSw); go_simp <;> with_reducible rfl)
      try simp only [Act.put, List.setIfInBounds_toArray, List.set_cons_zero, List.set_cons_succ]
      refine wpAnyT_pure (i := 14) (oi := ⟨_, _, _, _, _, _⟩) (v := ?_) rfl (by kernel_rfl) (by kernel_rfl) (by kernel_rfl) (fun _ _ _ h => h) (by kernel_rfl) (Or.inl ⟨by rfl, ?_⟩) (by assumption) ?_
      rotate_left
      · (intro wS hSw; (try dsimp only at hSw); go_simp <;> with_reducible rfl)
      try simp only [Act.put, List.setIfInBounds_toArray, List.set_cons_zero, List.set_cons_succ]
      refine wpAnyT_take (i := 3) (oi := ⟨_, _, _, _, _, _⟩) (v := ?_) rfl (by kernel_rfl) (by kernel_rfl) (by kernel_rfl) (fun _ _ _ h => h) (by kernel_rfl) (Or.inl ⟨by rfl, ?_⟩) (by assumption) ?_
      rotate_left
      · (intro wS hSw; (try dsimp only at hSw); go_simp <;> with_reducible rfl)
      try simp only [Act.put, List.setIfInBounds_toArray, List.set_cons_zero, List.set_cons_succ]
      refine wpAnyT_take (i := 7) (oi := ⟨_, _, _, _, _, _⟩) (v := ?_) rfl (by kernel_rfl) (by kernel_rfl) (by kernel_rfl) (fun _ _ _ h => h) (by kernel_rfl) (Or.inl ⟨by rfl, ?_⟩) (by assumption) ?_
      rotate_left
      · (intro wS hSw; (try dsimp only at hSw); go_simp <;> with_reducible rfl)
      try simp only [Act.put, List.setIfInBounds_toArray, List.set_cons_zero, List.set_cons_succ]
      refine wpAnyT_take (i := 11) (oi := ⟨_, _, _, _, _, _⟩) (v := ?_) rfl (by kernel_rfl) (by kernel_rfl) (by kernel_rfl) (fun _ _ _ h => h) (by kernel_rfl) (Or.inl ⟨by rfl, ?_⟩) (by assumption) ?_
      rotate_left
      · (intro wS hSw; (try dsimp only at hSw); go_simp <;> with_reducible rfl)
      try simp only [Act.put, List.setIfInBounds_toArray, List.set_cons_zero, List.set_cons_succ]
      refine wpAnyT_take (i := 15) (oi := ⟨_, _, _, _, _, _⟩) (v := ?_) rfl (by kernel_rfl) (by kernel_rfl) (by kernel_rfl) (fun _ _ _ h => h) (by kernel_rfl) (Or.inl ⟨by rfl, ?_⟩) (by assumption) ?_
      rotate_left
      · (intro wS hSw; (try dsimp only at hSw); go_simp <;> with_reducible rfl)
      try simp only [Act.put, List.setIfInBounds_toArray, List.set_cons_zero, List.set_cons_succ]
      refine wpAnyT_take (i := 16) (oi := ⟨_, _, _, _, _, _⟩) (v := .agg r.cells.toList.toArray) rfl (by kernel_rfl) (by kernel_rfl) (by kernel_rfl) (fun _ _ _ h => h) (by kernel_rfl) (yieldsIf_load_mid (by rfl) 51 (.tmp 3) rfl W.heap.size 0 rfl r.cells.toList _ (fun _ h => h.2) Try.underlying51 rfl hLI) (by assumption) ?_
      try simp only [Act.put, List.setIfInBounds_toArray, List.set_cons_zero, List.set_cons_succ]
      try simp only [Array.toArray_toList]
      refine wpAnyT_ready (rs := [17]) (by kernel_rfl) (by simp) ?_
      refine (AllReadyT.cons (o := ⟨_, _, _, _, _, _⟩) rfl (fun K hK => ?_) AllReadyT.nil)
      go_simp
      refine hK.out _ _ (by (try dsimp only); first | assumption | exact HSB.out) (fun hHeld => ?_)
      clear hK K
      try simp only [Act.put, List.setIfInBounds_toArray, List.set_cons_zero, List.set_cons_succ]
      refine wpAnyT_ready (rs := [18]) (by kernel_rfl) (by simp) ?_
      refine (AllReadyT.past (o := ⟨_, _, _, _, _, _⟩) rfl (by kernel_rfl) (fun K hK => ?_) AllReadyT.nil)
      refine lk_step_store_row rfl 53 (.tmp 4) (.tmp 49) rfl (W.heap.size + 1) (PR.mk s.me s.peer ((s.sent : Int) + 1) s.came r).cells rfl rfl 53 (lpCells 0 0 0 0 0 0) HY6.out bg_infoP rfl HPO.out ?_
      refine hK.out _ _ ?_
      clear hK K
      try simp only [Act.put]
      refine wpAnyT_done (by kernel_rfl) ?_ _
      go_wp2_with fail
      refine bodyPost_ret (bg_result1 rfl _ _ (W.heap.size + 1) (PR.mk s.me s.peer ((s.sent : Int) + 1) s.came r).cells rfl rfl (bg_row _ HY6.out)) rfl ?_
      have T7 : Touch [W.heap.size + 1] w6 _ := ((Touch.refl [W.heap.size + 1] w6).drew).trans (bg_touch w6.drew (W.heap.size + 1) (PR.mk s.me s.peer ((s.sent : Int) + 1) s.came r).cells) (fun x hx => .inl hx)
      have TA : Touch [g] W w5 := ((Touch.ofBelow (F := [g]) HB2.out).trans HT3.out (fun x hx => .inl hx)).trans (Touch.ofBelow (F := []) HB5.out) (by simp)
      have TB : Touch [g] W w6 := TA.trans HT6.out (fun x hx => .inl hx)
      have TC := TB.trans T7 (fun x hx => .inr (by simp at hx; omega))
      refine ⟨rfl, TC, .slice A5 (n + 1) c5, ⟨(T7.block g (bg_lt H6.out) (by simp; omega)).trans H6.out, ?_, TC.row H.out.k (fun q hq z => by have := H.out.gk q hq; simp at z; omega), fun q hq => ?_, H.out.gk, fun q hq z => ?_⟩, fun q hq => ?_⟩
      · have h9 := T7.row (HT6.out.row HO5.out (fun q hq z => by have := HN5.out q hq; have := bg_lt H3.out; simp at z; omega)) (fun q hq z => by have := HN5.out q hq; have := bg_lt HY2.out; simp at z; omega)
        rw [← rowC_append] at h9
        show World.ownsRow _ 0 _ 23 _ (s.out ++ [(s.sent + 1, s.now, r)]).length _
        rw [List.length_append, HN.out]
        exact h9
      · have := HN5.out q hq; have := bg_lt H3.out; omega
      · have := HN5.out q hq; have := (H.out.k.lt q z).2; have := bg_lt HY1.out; omega
      · have := HN5.out q hq; have := bg_lt HY1.out; omega
    · have hS3 := HSS.out _ (((Below.refl w3.heap.size w3).drew).alloc (Nat.le_refl _) (.cells (oE (s.sent + 1, s.now, r)) 83))
      go_simp
      refine hK.out _ _ (by (try dsimp only); first | assumption | exact HSS.out _ (Below.refl _ _).drew) (fun hHeld => ?_)
      clear hK K
      try simp only [Act.put, List.setIfInBounds_toArray, List.set_cons_zero, List.set_cons_succ]
      refine wpAnyT_ready (rs := [5]) (by kernel_rfl) (by simp) ?_
      refine (AllReadyT.cons (o := ⟨_, _, _, _, _, _⟩) rfl (fun K hK => ?_) AllReadyT.nil)
      refine step_append_any rfl (.const (.slice none 0 0)) (.tmp 16) 27 rfl 0 83 i0 (.agg lk_zo) 23 256 Try.underlying27 hi0 hz0 hs0 hb0 rfl (by decide) (.slice none 0 0) 0 [] rfl (World.ownsRow_nil _ _ _ _) (.slice A n c) n (rowC oE s.out) rfl (From.own (lk_below HV3.out (((Below.refl w3.heap.size w3).drew).alloc (Nat.le_refl _) (.cells (oE (s.sent + 1, s.now, r)) 83)))) (rowC_all (enc := oE) (l := s.out) fun x hx => oE_one (HOS.out x hx)) (by unfold maxLen; omega) (by omega) (Nat.zero_le _) ?_
      intro A4 c4 w4 ho4 hg4 hs4
      simp only [Nat.zero_add, List.nil_append] at ho4 hs4 ⊢
      have HB4 : Hid (Below w3.heap.size w3 w4) := (((Below.refl w3.heap.size w3).drew).alloc (Nat.le_refl _) (.cells (oE (s.sent + 1, s.now, r)) 83)).grown hg4 (by simp) (fun z hz => by cases hz)
      have hS4 := HSS.out w4 HB4.out
      have hN4 : ∀ q, (Value.slice A4 n c4).ownBlock = some q → w3.drew.heap.size + 1 ≤ q := fun q hq => by
        rcases hs4 q hq with z | z
        · cases z
        · (try simp at z ⊢); omega
      have HN4 := Lib.hid hN4
      have HO4 := Lib.hid ho4
      have HE4 := Lib.hid ((hg4.block w3.drew.heap.size (by simp) (fun z => by cases z)).trans (heap_alloc_new w3.drew (.cells (oE (s.sent + 1, s.now, r)) 83)))
      clear ho4 hg4 hs4 hN4
      refine hK.out _ _ (by (try dsimp only); first | assumption | exact HSS.out _ (Below.refl _ _).drew) (fun hHeld => ?_)
      clear hK K
      try simp only [Act.put, List.setIfInBounds_toArray, List.set_cons_zero, List.set_cons_succ]
      refine wpAnyT_ready (rs := [17]) (by kernel_rfl) (by simp) ?_
      refine (AllReadyT.cons (o := ⟨_, _, _, _, _, _⟩) rfl (fun K hK => ?_) AllReadyT.nil)
      refine step_append_any rfl (.tmp 17) (.tmp 28) 27 rfl 0 83 i0 (.agg lk_zo) 23 256 Try.underlying27 hi0 hz0 hs0 hb0 rfl (by decide) (.slice A4 n c4) n (rowC oE s.out) rfl HO4.out (.slice (some ⟨w3.drew.heap.size, 0, none⟩) 1 1) 1 (rowC oE [(s.sent + 1, s.now, r)]) rfl (.inr ⟨⟨w3.drew.heap.size, 0, none⟩, 1, rfl, rfl, row_new_at HE4.out⟩) (rowC_all (enc := oE) (l := [(s.sent + 1, s.now, r)]) (fun x hx => by simp at hx; subst hx; exact HOR.out)) (by unfold maxLen; omega) (by omega) (Nat.zero_le _) ?_
      intro A5 c5 w5 ho5 hg5 hs5
      have HB5 : Hid (Below w3.heap.size w3 w5) := HB4.out.grown hg5 (by have := HB4.out.size; (try simp); omega) (fun z hz => by have := HN4.out z hz; (try simp at this); omega)
      have hS5 := HSS.out w5 HB5.out
      have HO5 := Lib.hid ho5
      have HN5 : Hid (∀ q, (Value.slice A5 (n + 1) c5).ownBlock = some q → w3.heap.size ≤ q) := fun q hq => by
        rcases hs5 q hq with z | z
        · have := HN4.out q z; (try simp at this); omega
        · have := HB4.out.size; (try simp at z); omega
      clear ho5 hg5 hs5
      refine hK.out _ _ (by (try dsimp only); first | assumption | exact HSS.out _ (Below.refl _ _).drew) (fun hHeld => ?_)
      clear hK K
      try simp only [Act.put, List.setIfInBounds_toArray, List.set_cons_zero, List.set_cons_succ]
      refine wpAnyT_pure (i := 18) (oi := ⟨_, _, _, _, _, _⟩) (v := ?_) rfl (by kernel_rfl) (by kernel_rfl) (by kernel_rfl) (fun _ _ _ h => h) (by kernel_rfl) (Or.inl ⟨by rfl, ?_⟩) (by assumption) ?_
      rotate_left
      · (intro wS hSw; (try dsimp only at hSw); go_simp <;> with_reducible rfl)
      try simp only [Act.put, List.setIfInBounds_toArray, List.set_cons_zero, List.set_cons_succ]
      refine wpAnyT_pure (i := 19) (oi := ⟨_, _, _, _, _, _⟩) (v := ?_) rfl (by kernel_rfl) (by kernel_rfl) (by kernel_rfl) (fun _ _ _ h => h) (by kernel_rfl) (Or.inl ⟨by rfl, ?_⟩) (by assumption) ?_
      rotate_left
      · (intro wS hSw; (try dsimp only at hSw); go_simp <;> with_reducible rfl)
      try simp only [Act.put, List.setIfInBounds_toArray, List.set_cons_zero, List.set_cons_succ]
      refine wpAnyT_ready (rs := [20]) (by kernel_rfl) (by simp) ?_
      refine (AllReadyT.past (o := ⟨_, _, _, _, _, _⟩) rfl (by kernel_rfl) (fun K hK => ?_) AllReadyT.nil)
      have f3 : w5.frozen? ⟨g, 3, none⟩ = false := HFR.out w5 HB5.out
      go_simp
      refine hK.out _ _ ?_
      clear hK K
      try simp only [Act.put, List.setIfInBounds_toArray, List.set_cons_zero, List.set_cons_succ]
      refine wpAnyT_done (by kernel_rfl) ?_ _
      obtain ⟨w6, hw6⟩ : ∃ w6, w5.setCell ⟨g, 3, none⟩ (.slice A5 (n + 1) c5) = w6 := ⟨_, rfl⟩
      have e5 := (HB5.out.block g (bg_lt H3.out)).trans H3.out
      have T6 : Touch [g] w5 w6 := by rw [← hw6]; exact (Touch.refl _ _).set (.inl (by simp)) _
      have h6 : w6.heap[g]? = some (.cells (rlCells {s with sent := s.sent + 1, out := s.out ++ [(s.sent + 1, s.now, r)]} (.slice A5 (n + 1) c5) K) 30) := by
        rw [← hw6]
        simp [World.setCell, Array.getElem?_modify, e5]
      rw [hw6]
      clear hw6
      have y1 := (T6.block W.heap.size (Nat.lt_of_lt_of_le (bg_lt HY1.out) HB5.out.size) (by simp; exact hsg)).trans ((HB5.out.block _ (bg_lt HY1.out)).trans HY1.out)
      have y2 := (T6.block (W.heap.size + 1) (Nat.lt_of_lt_of_le (bg_lt HY2.out) HB5.out.size) (by simp; omega)).trans ((HB5.out.block _ (bg_lt HY2.out)).trans HY2.out)
      have HSB : Hid ((w6.drew.cell? ⟨g, 0, none⟩ = some (.int .i64 s.me) ∧ w6.drew.cell? ⟨g, 1, none⟩ = some (.int .i64 s.peer) ∧ w6.drew.cell? ⟨g, 2, none⟩ = some (.int .i64 ((s.sent : Int) + 1)) ∧ w6.drew.cell? ⟨g, 4, none⟩ = some (.int .i64 (s.came : Nat))) ∧ w6.drew.rangeAt W.heap.size 0 r.cells.toList) := by
        refine ⟨⟨bg_cell h6 rfl, bg_cell h6 rfl, bg_cell h6 rfl, bg_cell h6 rfl⟩, fun j v hj => ?_⟩
        rw [Nat.zero_add]
        rw [Array.getElem?_toList] at hj
        exact bg_cell y1 hj
      have HY6 := Lib.hid y2
      have H6 := Lib.hid h6
      have HT6 := Lib.hid T6
      have HPO : Hid ((PR.mk s.me s.peer ((s.sent : Int) + 1) s.came r).cells.all (·.oneCell') = true) := PR.one hr
      clear y1 y2 h6 T6 e5
      go_upto_region 3 with fail
      refine wp_region_till (fun w' => (w'.cell? ⟨g, 0, none⟩ = some (.int .i64 s.me) ∧ w'.cell? ⟨g, 1, none⟩ = some (.int .i64 s.peer) ∧ w'.cell? ⟨g, 2, none⟩ = some (.int .i64 ((s.sent : Int) + 1)) ∧ w'.cell? ⟨g, 4, none⟩ = some (.int .i64 (s.came : Nat))) ∧ w'.rangeAt W.heap.size 0 r.cells.toList) 18 (by kernel_rfl) ?_ (fun hHeld => ?_)
      · (try dsimp only); exact HSB.out
      refine wpAnyT_pure (i := 0) (oi := ⟨_, _, _, _, _, _⟩) (v := ?_) rfl (by kernel_rfl) (by kernel_rfl) (by kernel_rfl) (fun _ _ _ h => h) (by kernel_rfl) (Or.inl ⟨by rfl, ?_⟩) (by assumption) ?_
      rotate_left
      · (intro wS hSw; (try dsimp only at hSw); go_simp <;> with_reducible rfl)
      try simp only [Act.put, List.setIfInBounds_toArray, List.set_cons_zero, List.set_cons_succ]
      refine wpAnyT_pure (i := 1) (oi := ⟨_, _, _, _, _, _⟩) (v := ?_) rfl (by kernel_rfl) (by kernel_rfl) (by kernel_rfl) (fun _ _ _ h => h) (by kernel_rfl) (Or.inl ⟨by rfl, ?_⟩) (by assumption) ?_
      rotate_left
      · (intro wS hSw; (try dsimp only at hSw); go_simp <;> with_reducible rfl)
      try simp only [Act.put, List.setIfInBounds_toArray, List.set_cons_zero, List.set_cons_succ]
      refine wpAnyT_pure (i := 2) (oi := ⟨_, _, _, _, _, _⟩) (v := ?_) rfl (by kernel_rfl) (by kernel_rfl) (by kernel_rfl) (fun _ _ _ h => h) (by kernel_rfl) (Or.inl ⟨by rfl, ?_⟩) (by assumption) ?_
      rotate_left
      · (intro wS hSw; (try dsimp only at hSw); go_simp <;> with_reducible rfl)
      try simp only [Act.put, List.setIfInBounds_toArray, List.set_cons_zero, List.set_cons_succ]
      refine wpAnyT_pure (i := 4) (oi := ⟨_, _, _, _, _, _⟩) (v := ?_) rfl (by kernel_rfl) (by kernel_rfl) (by kernel_rfl) (fun _ _ _ h => h) (by kernel_rfl) (Or.inl ⟨by rfl, ?_⟩) (by assumption) ?_
      rotate_left
      · (intro wS hSw; (try dsimp only at hSw); go_simp <;> with_reducible rfl)
      try simp only [Act.put, List.setIfInBounds_toArray, List.set_cons_zero, List.set_cons_succ]
      refine wpAnyT_pure (i := 5) (oi := ⟨_, _, _, _, _, _⟩) (v := ?_) rfl (by kernel_rfl) (by kernel_rfl) (by kernel_rfl) (fun _ _ _ h => h) (by kernel_rfl) (Or.inl ⟨by rfl, ?_⟩) (by assumption) ?_
      rotate_left
      · (intro wS hSw; (try dsimp only at hSw); go_simp <;> with_reducible rfl)
      try simp only [Act.put, List.setIfInBounds_toArray, List.set_cons_zero, List.set_cons_succ]
      refine wpAnyT_pure (i := 6) (oi := ⟨_, _, _, _, _, _⟩) (v := ?_) rfl (by kernel_rfl) (by kernel_rfl) (by kernel_rfl) (fun _ _ _ h => h) (by kernel_rfl) (Or.inl ⟨by rfl, ?_⟩) (by assumption) ?_
      rotate_left
      · (intro wS hSw; (try dsimp only at hSw); go_simp <;> with_reducible rfl)
      try simp only [Act.put, List.setIfInBounds_toArray, List.set_cons_zero, List.set_cons_succ]
      refine wpAnyT_pure (i := 8) (oi := ⟨_, _, _, _, _, _⟩) (v := ?_) rfl (by kernel_rfl) (by kernel_rfl) (by kernel_rfl) (fun _ _ _ h => h) (by kernel_rfl) (Or.inl ⟨by rfl, ?_⟩) (by assumption) ?_
      rotate_left
      · (intro wS hSw; (try dsimp only at hSw); go_simp <;> with_reducible rfl)
      try simp only [Act.put, List.setIfInBounds_toArray, List.set_cons_zero, List.set_cons_succ]
      refine wpAnyT_pure (i := 9) (oi := ⟨_, _, _, _, _, _⟩) (v := ?_) rfl (by kernel_rfl) (by kernel_rfl) (by kernel_rfl) (fun _ _ _ h => h) (by kernel_rfl) (Or.inl ⟨by rfl, ?_⟩) (by assumption) ?_
      rotate_left
      · (intro wS hSw; (try dsimp only at hSw); go_simp <;> with_reducible rfl)
      try simp only [Act.put, List.setIfInBounds_toArray, List.set_cons_zero, List.set_cons_succ]
      refine wpAnyT_pure (i := 10) (oi := ⟨_, _, _, _, _, _⟩) (v := ?_) rfl (by kernel_rfl) (by kernel_rfl) (by kernel_rfl) (fun _ _ _ h => h) (by kernel_rfl) (Or.inl ⟨by rfl, ?_⟩) (by assumption) ?_
      rotate_left
      · (intro wS hSw; (try dsimp only at hSw); go_simp <;> with_reducible rfl)
      try simp only [Act.put, List.setIfInBounds_toArray, List.set_cons_zero, List.set_cons_succ]
      refine wpAnyT_pure (i := 12) (oi := ⟨_, _, _, _, _, _⟩) (v := ?_) rfl (by kernel_rfl) (by kernel_rfl) (by kernel_rfl) (fun _ _ _ h => h) (by kernel_rfl) (Or.inl ⟨by rfl, ?_⟩) (by assumption) ?_
      rotate_left
      · (intro wS hSw; (try dsimp only at hSw); go_simp <;> with_reducible rfl)
      try simp only [Act.put, List.setIfInBounds_toArray, List.set_cons_zero, List.set_cons_succ]
      refine wpAnyT_pure (i := 13) (oi := ⟨_, _, _, _, _, _⟩) (v := ?_) rfl (by kernel_rfl) (by kernel_rfl) (by kernel_rfl) (fun _ _ _ h => h) (by kernel_rfl) (Or.inl ⟨by rfl, ?_⟩) (by assumption) ?_
      rotate_left
      · (intro wS hSw; (try dsimp only at hSw); go_simp <;> with_reducible rfl)
      try simp only [Act.put, List.setIfInBounds_toArray, List.set_cons_zero, List.set_cons_succ]
      refine wpAnyT_pure (i := 14) (oi := ⟨_, _, _, _, _, _⟩) (v := ?_) rfl (by kernel_rfl) (by kernel_rfl) (by kernel_rfl) (fun _ _ _ h => h) (by kernel_rfl) (Or.inl ⟨by rfl, ?_⟩) (by assumption) ?_
      rotate_left
      · (intro wS hSw; (try dsimp only at hSw); go_simp <;> with_reducible rfl)
      try simp only [Act.put, List.setIfInBounds_toArray, List.set_cons_zero, List.set_cons_succ]
      refine wpAnyT_take (i := 3) (oi := ⟨_, _, _, _, _, _⟩) (v := ?_) rfl (by kernel_rfl) (by kernel_rfl) (by kernel_rfl) (fun _ _ _ h => h) (by kernel_rfl) (Or.inl ⟨by rfl, ?_⟩) (by assumption) ?_
      rotate_left
      · (intro wS hSw; (try dsimp only at hSw); go_simp <;> with_reducible rfl)
      try simp only [Act.put, List.setIfInBounds_toArray, List.set_cons_zero, List.set_cons_succ]
      refine wpAnyT_take (i := 7) (oi := ⟨_, _, _, _, _, _⟩) (v := ?_) rfl (by kernel_rfl) (by kernel_rfl) (by kernel_rfl) (fun _ _ _ h => h) (by kernel_rfl) (Or.inl ⟨by rfl, ?_⟩) (by assumption) ?_
      rotate_left
      · (intro wS hSw; (try dsimp only at hSw); go_simp <;> with_reducible rfl)
      try simp only [Act.put, List.setIfInBounds_toArray, List.set_cons_zero, List.set_cons_succ]
      refine wpAnyT_take (i := 11) (oi := ⟨_, _, _, _, _, _⟩) (v := ?_) rfl (by kernel_rfl) (by kernel_rfl) (by kernel_rfl) (fun _ _ _ h => h) (by kernel_rfl) (Or.inl ⟨by rfl, ?_⟩) (by assumption) ?_
      rotate_left
      · (intro wS hSw; (try dsimp only at hSw); go_simp <;> with_reducible rfl)
      try simp only [Act.put, List.setIfInBounds_toArray, List.set_cons_zero, List.set_cons_succ]
      refine wpAnyT_take (i := 15) (oi := ⟨_, _, _, _, _, _⟩) (v := ?_) rfl (by kernel_rfl) (by kernel_rfl) (by kernel_rfl) (fun _ _ _ h => h) (by kernel_rfl) (Or.inl ⟨by rfl, ?_⟩) (by assumption) ?_
      rotate_left
      · (intro wS hSw; (try dsimp only at hSw); go_simp <;> with_reducible rfl)
      try simp only [Act.put, List.setIfInBounds_toArray, List.set_cons_zero, List.set_cons_succ]
      refine wpAnyT_take (i := 16) (oi := ⟨_, _, _, _, _, _⟩) (v := .agg r.cells.toList.toArray) rfl (by kernel_rfl) (by kernel_rfl) (by kernel_rfl) (fun _ _ _ h => h) (by kernel_rfl) (yieldsIf_load_mid (by rfl) 51 (.tmp 3) rfl W.heap.size 0 rfl r.cells.toList _ (fun _ h => h.2) Try.underlying51 rfl hLI) (by assumption) ?_
      try simp only [Act.put, List.setIfInBounds_toArray, List.set_cons_zero, List.set_cons_succ]
      try simp only [Array.toArray_toList]
      refine wpAnyT_ready (rs := [17]) (by kernel_rfl) (by simp) ?_
      refine (AllReadyT.cons (o := ⟨_, _, _, _, _, _⟩) rfl (fun K hK => ?_) AllReadyT.nil)
      go_simp
      refine hK.out _ _ (by (try dsimp only); first | assumption | exact HSB.out) (fun hHeld => ?_)
      clear hK K
      try simp only [Act.put, List.setIfInBounds_toArray, List.set_cons_zero, List.set_cons_succ]
      refine wpAnyT_ready (rs := [18]) (by kernel_rfl) (by simp) ?_
      refine (AllReadyT.past (o := ⟨_, _, _, _, _, _⟩) rfl (by kernel_rfl) (fun K hK => ?_) AllReadyT.nil)
      refine lk_step_store_row rfl 53 (.tmp 4) (.tmp 49) rfl (W.heap.size + 1) (PR.mk s.me s.peer ((s.sent : Int) + 1) s.came r).cells rfl rfl 53 (lpCells 0 0 0 0 0 0) HY6.out bg_infoP rfl HPO.out ?_
      refine hK.out _ _ ?_
      clear hK K
      try simp only [Act.put]
      refine wpAnyT_done (by kernel_rfl) ?_ _
      go_wp2_with fail
      refine bodyPost_ret (bg_result1 rfl _ _ (W.heap.size + 1) (PR.mk s.me s.peer ((s.sent : Int) + 1) s.came r).cells rfl rfl (bg_row _ HY6.out)) rfl ?_
      have T7 : Touch [W.heap.size + 1] w6 _ := ((Touch.refl [W.heap.size + 1] w6).drew).trans (bg_touch w6.drew (W.heap.size + 1) (PR.mk s.me s.peer ((s.sent : Int) + 1) s.came r).cells) (fun x hx => .inl hx)
      have TA : Touch [g] W w5 := ((Touch.ofBelow (F := [g]) HB2.out).trans HT3.out (fun x hx => .inl hx)).trans (Touch.ofBelow (F := []) HB5.out) (by simp)
      have TB : Touch [g] W w6 := TA.trans HT6.out (fun x hx => .inl hx)
      have TC := TB.trans T7 (fun x hx => .inr (by simp at hx; omega))
      refine ⟨rfl, TC, .slice A5 (n + 1) c5, ⟨(T7.block g (bg_lt H6.out) (by simp; omega)).trans H6.out, ?_, TC.row H.out.k (fun q hq z => by have := H.out.gk q hq; simp at z; omega), fun q hq => ?_, H.out.gk, fun q hq z => ?_⟩, fun q hq => ?_⟩
      · have h9 := T7.row (HT6.out.row HO5.out (fun q hq z => by have := HN5.out q hq; have := bg_lt H3.out; simp at z; omega)) (fun q hq z => by have := HN5.out q hq; have := bg_lt HY2.out; simp at z; omega)
        rw [← rowC_append] at h9
        show World.ownsRow _ 0 _ 23 _ (s.out ++ [(s.sent + 1, s.now, r)]).length _
        rw [List.length_append, HN.out]
        exact h9
      · have := HN5.out q hq; have := bg_lt H3.out; omega
      · have := HN5.out q hq; have := (H.out.k.lt q z).2; have := bg_lt HY1.out; omega
      · have := HN5.out q hq; have := bg_lt HY1.out; omega
end Go.Proofs.Ytfemdfidfomchaa
