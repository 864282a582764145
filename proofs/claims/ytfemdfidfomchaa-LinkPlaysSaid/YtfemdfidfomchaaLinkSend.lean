/-
  Send. (Its regions by tools/genLKSend.py.)
-/
import Derived.Test.YtfemdfidfomchaaLinkPacket
namespace Go.Proofs.Ytfemdfidfomchaa
open Go.RowKit

abbrev lk_zw : Array Value := #[.int .i64 0, .int .i64 0, .int .i64 0, .int .i64 0, .int .i64 0, .string ⟨#[]⟩, .string ⟨#[]⟩, .string ⟨#[]⟩, .int .i64 0, .int .i64 0, .string ⟨#[]⟩, .slice none 0 0, .bool false, .string ⟨#[]⟩, .int .i64 0, .int .u64 0, .int .u64 0, .int .i64 0, .slice none 0 0, .int .i64 0, .int .i64 0, .int .i64 0]
abbrev lk_zk : Array Value := #[.int .i64 0, .int .i64 0, .int .i64 0, .int .i64 0, .int .i64 0, .int .i64 0, .string ⟨#[]⟩, .string ⟨#[]⟩, .string ⟨#[]⟩, .int .i64 0, .int .i64 0, .string ⟨#[]⟩, .slice none 0 0, .bool false, .string ⟨#[]⟩, .int .i64 0, .int .u64 0, .int .u64 0, .int .i64 0, .slice none 0 0, .int .i64 0, .int .i64 0]
theorem lk_infoW : ∃ i, Try.prog.info? 80 = some i ∧ i.zero = some (.agg lk_zw) ∧ i.size = 22 ∧ i.bytes = 248 := by
  have h : (Try.prog.info? 80).map (fun i => (i.zero, i.size, i.bytes)) = some (some (.agg lk_zw), 22, 248) := by kernel_rfl
  obtain ⟨i, hi, hx⟩ := Option.map_eq_some_iff.1 h
  simp only [Prod.mk.injEq] at hx
  exact ⟨i, hi, hx⟩
theorem lk_new_row {α : Type} (w : World) (cs : Array Value) (T : TypeId) {enc : α → Array Value} {x : α} (h : enc x = cs := by rfl) : ∀ j u, (rowC enc [x])[j]? = some u → (w.alloc (.cells cs T)).cell? ((⟨w.heap.size, 0, none⟩ : Addr).add j) = some u := by
  subst h
  intro j u hj
  rw [rowC_one1, Array.getElem?_toList] at hj
  rw [Go.WideShapes.add_plain, Nat.zero_add]
  exact bg_cell (heap_alloc_new w _) hj
/-- one more letter waits -/
abbrev LS.push (s : LS) (r : LR) : LS := {s with sent := s.sent + 1, waits := s.waits ++ [(r, s.now)]}
/-- alike, but for where the lists lie -/
structure AlikeP (r r' : LR) : Prop where
  l : r'.l = r.l
  na : r.a = .slice none 0 0 → r'.a = .slice none 0 0
  nb : r.b = .slice none 0 0 → r'.b = .slice none 0 0
theorem Alike.p {W w : World} {r r' : LR} (h : Alike W w r r') : AlikeP r r' := ⟨h.l, h.na, h.nb⟩
theorem AlikeP.light {k i : Int} {r : LR} (h : AlikeP (LR.light k i) r) : r = LR.light k i := by
  obtain ⟨l, a, b⟩ := r
  obtain ⟨rfl, h1, h2⟩ := h
  have h1 : a = .slice none 0 0 := h1 rfl
  have h2 : b = .slice none 0 0 := h2 rfl
  rw [h1, h2]
theorem letter_touch {W W1 : World} {r : LR} {G : List Nat} (h : SlAt W r.a r.l.ti ∧ SlAt W r.b r.l.li) (t : Touch G W W1) (hn : ∀ q ∈ r.blocks, q ∉ G) : SlAt W1 r.a r.l.ti ∧ SlAt W1 r.b r.l.li :=
  ⟨slAt_touch h.1 t fun q hq => hn q (by simp [LR.blocks, hq]), slAt_touch h.2 t fun q hq => hn q (by simp [LR.blocks, hq])⟩

set_option maxRecDepth 20000 in
set_option maxHeartbeats 8000000 in
theorem send_any {W : World} {g : Nat} {s : LS} {V K : Value} {L : List Nat} (h : LNX W g s V K L) (hok : s.Ok) (r : LR) (hl : SlAt W r.a r.l.ti ∧ SlAt W r.b r.l.li) (hbl : ∀ q ∈ r.blocks, q < W.heap.size ∧ q ∉ fr g V K) (hs : r.Sm) :
    Calls Try.prog 13 #[.pointer (some ⟨g, 0, none⟩), .agg r.cells] W fun e w' => ∃ r1 r2, e = .returned (.agg (PR.mk s.me s.peer ((s.sent : Int) + 1) s.came r2).cells) ∧ AlikeP r r1 ∧ Alike W w' r r2 ∧ LStep W w' g (fr g V K) L (s.push r1) r2.blocks := by
  have hgl := h.glt
  have B2 : Below W.heap.size W ((W.alloc (.cells r.cells 51)).alloc (.cells (lpCells 0 0 0 0 0 0) 53)) := ((Below.refl _ _).alloc (Nat.le_refl _) _).alloc (by simp) _
  have b1 : ((W.alloc (.cells r.cells 51)).alloc (.cells (lpCells 0 0 0 0 0 0) 53)).heap[W.heap.size]? = some (.cells r.cells 51) := (Lib.alloc_old _ _ _ (by simp)).trans (heap_alloc_new W _)
  have b2 : ((W.alloc (.cells r.cells 51)).alloc (.cells (lpCells 0 0 0 0 0 0) 53)).heap[W.heap.size + 1]? = some (.cells (lpCells 0 0 0 0 0 0) 53) := by
    have := heap_alloc_new (W.alloc (.cells r.cells 51)) (.cells (lpCells 0 0 0 0 0 0) 53)
    simpa using this
  have h2 := h.below B2
  have l2 := letter_touch hl (Touch.ofBelow (F := []) B2) (by simp)
  obtain ⟨w2, hw2⟩ : ∃ w2, (W.alloc (.cells r.cells 51)).alloc (.cells (lpCells 0 0 0 0 0 0) 53) = w2 := ⟨_, rfl⟩
  rw [hw2] at B2 b1 b2 h2 l2
  have CL := Lib.hid (leads_any h2.c0)
  have c3 := h2.c3
  have f3 := h2.free 3
  have hz : IntKind.i64.wrap ((s.sent : Int) + 1) = (s.sent : Int) + 1 := by rw [IntKind.wrap_i64]; have := hok.sent; omega
  have H2 := Lib.hid h2
  have HY1 := Lib.hid b1
  have HY2 := Lib.hid b2
  have HB2 := Lib.hid B2
  have HL2 := Lib.hid l2
  have HBL := Lib.hid hbl
  have HOK := Lib.hid hok
  have HSM := Lib.hid hs
  have HGL := Lib.hid hgl
  have hfl := Lib.hid h.flt
  have HLL := Lib.hid h.lt
  clear h h2 l2 B2 b1 b2 hl hbl hs hok hgl
  go_enter Try.func13, Try.ntmps13
  go_upto_region 1 with fail
  clear hw2
  go_upto_region 4 with (go_at_call 26; ((with_reducible refine CL.out.mono ?_); rintro e w9 ⟨rfl, rfl⟩))
  have h3 : LNX (w9.setCell ⟨g, 3, none⟩ (.int .i64 ((s.sent : Int) + 1))) g {s with sent := s.sent + 1} V K L := H2.out.setSent (s.sent + 1)
  have T3 : Touch [g] w9 (w9.setCell ⟨g, 3, none⟩ (.int .i64 ((s.sent : Int) + 1))) := (Touch.refl _ _).set (.inl (by simp)) _
  have y1 := (T3.block W.heap.size (bg_lt HY1.out) (by have := HGL.out; simp; omega)).trans HY1.out
  have y2 := (T3.block (W.heap.size + 1) (bg_lt HY2.out) (by have := HGL.out; simp; omega)).trans HY2.out
  have l3 := letter_touch HL2.out T3 (fun q hq z => (HBL.out q hq).2 (by simp at z; simp [fr, z]))
  have TW3 : Touch [g] W (w9.setCell ⟨g, 3, none⟩ (.int .i64 ((s.sent : Int) + 1))) := (Touch.ofBelow (F := [g]) HB2.out).trans T3 (fun x hx => .inl hx)
  obtain ⟨w3, hw3⟩ : ∃ w3, w9.setCell ⟨g, 3, none⟩ (.int .i64 ((s.sent : Int) + 1)) = w3 := ⟨_, rfl⟩
  rw [hw3] at h3 y1 y2 l3 TW3 ⊢
  clear hw3 T3 HL2 HY1 HY2 H2 CL c3 f3
  obtain ⟨A, c, hVs, hnc, hcm⟩ := h3.v.shape
  obtain ⟨n, hn⟩ : ∃ n, s.waits.length = n := ⟨_, rfl⟩
  have hV3 := h3.v
  have c43 := h3.c4
  rw [hVs] at hV3 c43
  rw [hn] at hV3 c43
  have hn6 : n ≤ 1000000 := by have := HOK.out.waits; have := HOK.out.sent; omega
  have hgv : ∀ q ∈ (Value.slice A n c).ownBlock.toList, q < w3.heap.size ∧ q ≠ g ∧ q ∈ fr g V K := by
    intro q hq
    have hq' : V.ownBlock = some q := by rw [hVs, hn]; simpa using hq
    exact ⟨h3.v.lt q hq', h3.gv q hq', mem_fr.2 (.inr (.inl hq'))⟩
  have HSS : Hid (∀ w', Touch (Value.slice A n c).ownBlock.toList w3 w' → Touch (Value.slice A n c).ownBlock.toList w3 w' ∧ w'.cell? ⟨g, 4, none⟩ = some (.slice A n c) ∧ w'.cell? ⟨g, 7, none⟩ = some (.int .i64 (s.now : Nat))) := fun w' ht =>
    ⟨ht, (ht.cell (p := ⟨g, 4, none⟩) h3.glt (fun z => (hgv g z).2.1 rfl)).trans c43, (ht.cell (p := ⟨g, 7, none⟩) h3.glt (fun z => (hgv g z).2.1 rfl)).trans h3.c7⟩
  have HFR : Hid (∀ w', Touch (Value.slice A n c).ownBlock.toList w3 w' → w'.frozen? ⟨g, 4, none⟩ = false) := fun w' ht => (ht.frozen (p := ⟨g, 4, none⟩) h3.glt (fun z => (hgv g z).2.1 rfl)).trans (h3.free 4)
  have CO : Hid (∀ w, Touch (Value.slice A n c).ownBlock.toList w3 w → Calls Try.prog 27 #[.agg r.cells] w fun e w' => ∃ r', e = .returned (.agg r'.cells) ∧ Below w.heap.size w w' ∧ Alike w w' r r') := fun w ht =>
    have l := letter_touch l3 ht (fun q hq z => (HBL.out q hq).2 (hgv q z).2.2)
    own_any r w l.1 l.2 HSM.out
  obtain ⟨i0, hi0, hz0, hs0, hb0⟩ := lk_infoW
  have HV3 := Lib.hid hV3
  have H3 := Lib.hid h3
  have HY1 := Lib.hid y1
  have HY2 := Lib.hid y2
  have HL3 := Lib.hid l3
  have HT3 := Lib.hid TW3
  have HN := Lib.hid hn
  have HVS := Lib.hid hVs
  have HGV := Lib.hid hgv
  clear hV3 h3 y1 y2 l3 TW3 hn hVs hgv c43
  --REGION A
  refine wp_region_till (fun w' => Touch (Value.slice A n c).ownBlock.toList w3 w' ∧ w'.cell? ⟨g, 4, none⟩ = some (.slice A n c) ∧ w'.cell? ⟨g, 7, none⟩ = some (.int .i64 (s.now : Nat))) 16 (by kernel_rfl) ?_ (fun hHeld => ?_)
  · (try dsimp only); exact HSS.out _ (Touch.refl _ _).drew
  refine wpAnyT_pure (i := 0) (oi := ⟨_, _, _, _, _, _⟩) (v := ?_) rfl (by kernel_rfl) (by kernel_rfl) (by kernel_rfl) (fun _ _ _ h => h) (by kernel_rfl) (Or.inl ⟨by rfl, ?_⟩) (by assumption) ?_
  rotate_left
  · (intro wS hSw; (try dsimp only at hSw); go_simp <;> with_reducible rfl)
  try simp only [Act.put, List.setIfInBounds_toArray, List.set_cons_zero, List.set_cons_succ]
  refine wpAnyT_pure (i := 1) (oi := ⟨_, _, _, _, _, _⟩) (v := ?_) rfl (by kernel_rfl) (by kernel_rfl) (by kernel_rfl) (fun _ _ _ h => h) (by kernel_rfl) (Or.inl ⟨by rfl, ?_⟩) (by assumption) ?_
  rotate_left
  · (intro wS hSw; (try dsimp only at hSw); go_simp <;> with_reducible rfl)
  try simp only [Act.put, List.setIfInBounds_toArray, List.set_cons_zero, List.set_cons_succ]
  refine wpAnyT_pure (i := 2) (oi := ⟨_, _, _, _, _, _⟩) (v := ?_) rfl (by kernel_rfl) (by kernel_rfl) (by kernel_rfl) (fun _ _ _ h => h) (by kernel_rfl) (Or.inl ⟨by rfl, ?_⟩) (by assumption) ?_
  rotate_left
  · (intro wS hSw; (try dsimp only at hSw); go_simp <;> with_reducible rfl)
  try simp only [Act.put, List.setIfInBounds_toArray, List.set_cons_zero, List.set_cons_succ]
  refine wpAnyT_pure (i := 3) (oi := ⟨_, _, _, _, _, _⟩) (v := ?_) rfl (by kernel_rfl) (by kernel_rfl) (by kernel_rfl) (fun _ _ _ h => h) (by kernel_rfl) (Or.inl ⟨by rfl, ?_⟩) (by assumption) ?_
  rotate_left
  · (intro wS hSw; (try dsimp only at hSw); go_simp <;> with_reducible rfl)
  try simp only [Act.put, List.setIfInBounds_toArray, List.set_cons_zero, List.set_cons_succ]
  refine wpAnyT_pure (i := 7) (oi := ⟨_, _, _, _, _, _⟩) (v := ?_) rfl (by kernel_rfl) (by kernel_rfl) (by kernel_rfl) (fun _ _ _ h => h) (by kernel_rfl) (Or.inl ⟨by rfl, ?_⟩) (by assumption) ?_
  rotate_left
  · (intro wS hSw; (try dsimp only at hSw); go_simp <;> with_reducible rfl)
  try simp only [Act.put, List.setIfInBounds_toArray, List.set_cons_zero, List.set_cons_succ]
  refine wpAnyT_pure (i := 8) (oi := ⟨_, _, _, _, _, _⟩) (v := ?_) rfl (by kernel_rfl) (by kernel_rfl) (by kernel_rfl) (fun _ _ _ h => h) (by kernel_rfl) (Or.inl ⟨by rfl, ?_⟩) (by assumption) ?_
  rotate_left
  · (intro wS hSw; (try dsimp only at hSw); go_simp <;> with_reducible rfl)
  try simp only [Act.put, List.setIfInBounds_toArray, List.set_cons_zero, List.set_cons_succ]
  refine wpAnyT_pure (i := 9) (oi := ⟨_, _, _, _, _, _⟩) (v := ?_) rfl (by kernel_rfl) (by kernel_rfl) (by kernel_rfl) (fun _ _ _ h => h) (by kernel_rfl) (Or.inl ⟨by rfl, ?_⟩) (by assumption) ?_
  rotate_left
  · (intro wS hSw; (try dsimp only at hSw); go_simp <;> with_reducible rfl)
  try simp only [Act.put, List.setIfInBounds_toArray, List.set_cons_zero, List.set_cons_succ]
  refine wpAnyT_take (i := 4) (oi := ⟨_, _, _, _, _, _⟩) (v := ?_) rfl (by kernel_rfl) (by kernel_rfl) (by kernel_rfl) (fun _ _ _ h => h) (by kernel_rfl) (Or.inl ⟨by rfl, ?_⟩) (by assumption) ?_
  rotate_left
  · (intro wS hSw; (try dsimp only at hSw); go_simp <;> with_reducible rfl)
  try simp only [Act.put, List.setIfInBounds_toArray, List.set_cons_zero, List.set_cons_succ]
  refine wpAnyT_take (i := 10) (oi := ⟨_, _, _, _, _, _⟩) (v := ?_) rfl (by kernel_rfl) (by kernel_rfl) (by kernel_rfl) (fun _ _ _ h => h) (by kernel_rfl) (Or.inl ⟨by rfl, ?_⟩) (by assumption) ?_
  rotate_left
  · (intro wS hSw; (try dsimp only at hSw); go_simp <;> with_reducible rfl)
  try simp only [Act.put, List.setIfInBounds_toArray, List.set_cons_zero, List.set_cons_succ]
  refine wpAnyT_ready (rs := [5]) (by kernel_rfl) (by simp) ?_
  refine AllReadyT.cons (o := ⟨_, _, _, _, _, _⟩) rfl (fun K hK => ?_) AllReadyT.nil
  refine lk_step_load_row rfl 51 (.tmp 3) rfl W.heap.size rfl 51 r.cells (0, 0) _ HY1.out Try.underlying51 rfl lk_infoL ?_
  refine hK.out _ _ (by (try dsimp only); first | assumption | exact HSS.out _ (Touch.refl _ _).drew) (fun hHeld => ?_)
  clear hK K
  try simp only [Act.put, List.setIfInBounds_toArray, List.set_cons_zero, List.set_cons_succ]
  refine wpAnyT_ready (rs := [6]) (by kernel_rfl) (by simp) ?_
  refine AllReadyT.cons (o := ⟨_, _, _, _, _, _⟩) rfl (fun K hK => ?_) AllReadyT.nil
  go_simp
  (first | (go_at_call 27; (with_reducible refine (CO.out _ (Touch.refl _ _).drew).mono ?_); rintro e w4 ⟨r1, rfl, hb4, ha4⟩; have ht4 : Touch (Value.slice A n c).ownBlock.toList w3 w4 := (Touch.refl _ w3).drew.trans (Touch.ofBelow (F := []) hb4) (by simp); have HB4 := Lib.hid (show Below w3.heap.size w3 w4 from (Below.refl _ w3).drew.trans hb4); have HA4 := Lib.hid ha4; have hS4 := HSS.out w4 ht4; have hS5 := HSS.out _ (ht4.alloc (.cells (wE (r1, s.now)) 80)); have HT4 := Lib.hid ht4; clear ha4 hb4 ht4))
  go_wp2_with fail
  refine hK.out _ _ (by (try dsimp only); first | assumption | exact HSS.out _ (Touch.refl _ _).drew) (fun hHeld => ?_)
  clear hK K
  try simp only [Act.put, List.setIfInBounds_toArray, List.set_cons_zero, List.set_cons_succ]
  refine wpAnyT_ready (rs := [11]) (by kernel_rfl) (by simp) ?_
  refine AllReadyT.cons (o := ⟨_, _, _, _, _, _⟩) rfl (fun K hK => ?_) AllReadyT.nil
  go_simp
  refine hK.out _ _ (by (try dsimp only); first | assumption | exact HSS.out _ (Touch.refl _ _).drew) (fun hHeld => ?_)
  clear hK K
  try simp only [Act.put, List.setIfInBounds_toArray, List.set_cons_zero, List.set_cons_succ]
  refine wpAnyT_ready (rs := [12]) (by kernel_rfl) (by simp) ?_
  refine AllReadyT.cons (o := ⟨_, _, _, _, _, _⟩) rfl (fun K hK => ?_) AllReadyT.nil
  go_simp
  refine hK.out _ _ (by (try dsimp only); first | assumption | exact HSS.out _ (Touch.refl _ _).drew) (fun hHeld => ?_)
  clear hK K
  try simp only [Act.put, List.setIfInBounds_toArray, List.set_cons_zero, List.set_cons_succ]
  refine wpAnyT_ready (rs := [13]) (by kernel_rfl) (by simp) ?_
  refine AllReadyT.cons (o := ⟨_, _, _, _, _, _⟩) rfl (fun K hK => ?_) AllReadyT.nil
  refine step_append_at rfl (.tmp 20) (.tmp 28) 73 rfl 80 i0 (.agg lk_zw) 22 248 Try.underlying73 hi0 hz0 hs0 hb0 rfl (.slice A n c) n (rowC wE s.waits) rfl ((HV3.out.below HB4.out).touch ((Touch.refl [] w4).alloc _) (by simp)) ⟨w4.heap.size, 0, none⟩ 1 (rowC wE [(r1, s.now)]) rfl rfl (lk_new_row w4 (wE (r1, s.now)) _) (rowC_all (enc := wE) (l := [(r1, s.now)]) (fun x hx => by simp at hx; subst hx; exact wE_one HA4.out.at_.sl)) (by unfold maxLen; omega) (by omega) ?_
  intro A5 c5 w5 ho5 hg5 hs5
  have ht5 : Touch (Value.slice A n c).ownBlock.toList w3 w5 := (HT4.out.alloc _).grown hg5 (fun q hq => .inl (by simp [hq]))
  have hS6 := HSS.out w5 ht5
  have HO5 := Lib.hid ho5
  have HG5 := Lib.hid hg5
  have HN5 := Lib.hid hs5
  have HT5 := Lib.hid ht5
  clear ho5 hg5 hs5 ht5
  refine hK.out _ _ (by (try dsimp only); first | assumption | exact HSS.out _ (Touch.refl _ _).drew) (fun hHeld => ?_)
  clear hK K
  try simp only [Act.put, List.setIfInBounds_toArray, List.set_cons_zero, List.set_cons_succ]
  refine wpAnyT_pure (i := 14) (oi := ⟨_, _, _, _, _, _⟩) (v := ?_) rfl (by kernel_rfl) (by kernel_rfl) (by kernel_rfl) (fun _ _ _ h => h) (by kernel_rfl) (Or.inl ⟨by rfl, ?_⟩) (by assumption) ?_
  rotate_left
  · (intro wS hSw; (try dsimp only at hSw); go_simp <;> with_reducible rfl)
  try simp only [Act.put, List.setIfInBounds_toArray, List.set_cons_zero, List.set_cons_succ]
  refine wpAnyT_pure (i := 15) (oi := ⟨_, _, _, _, _, _⟩) (v := ?_) rfl (by kernel_rfl) (by kernel_rfl) (by kernel_rfl) (fun _ _ _ h => h) (by kernel_rfl) (Or.inl ⟨by rfl, ?_⟩) (by assumption) ?_
  rotate_left
  · (intro wS hSw; (try dsimp only at hSw); go_simp <;> with_reducible rfl)
  try simp only [Act.put, List.setIfInBounds_toArray, List.set_cons_zero, List.set_cons_succ]
  refine wpAnyT_ready (rs := [16]) (by kernel_rfl) (by simp) ?_
  refine AllReadyT.past (o := ⟨_, _, _, _, _, _⟩) rfl (by kernel_rfl) (fun K hK => ?_) AllReadyT.nil
  have f4 : w5.frozen? ⟨g, 4, none⟩ = false := HFR.out w5 HT5.out
  go_simp
  refine hK.out _ _ ?_
  clear hK K
  try simp only [Act.put, List.setIfInBounds_toArray, List.set_cons_zero, List.set_cons_succ]
  refine wpAnyT_done (by kernel_rfl) ?_ _
  --END A
  go_upto_region 5 with fail
  have hHN := HN.out
  have hHV := HVS.out
  rw [hHN] at hHV
  subst hHV
  have r1lt : ∀ q ∈ r1.blocks, w3.heap.size ≤ q ∧ q < w4.heap.size := fun q hq => HA4.out.new q hq
  have sz5 : w4.heap.size + 1 ≤ w5.heap.size := by have := HG5.out.size; simpa using this
  have t45 : Touch (Value.slice A n c).ownBlock.toList w4 w5 := ((Touch.refl _ w4).alloc _).grown HG5.out (fun q hq => .inl (by simp [hq]))
  have r1at : r1.At w5 r1.blocks := HA4.out.at_.touch t45 (fun q hq z => by have := (HGV.out q z).1; have := (r1lt q hq).1; omega)
  have h6 := lnx_setV (M := L ++ r1.blocks) (ws := s.waits ++ [(r1, s.now)]) H3.out HT5.out (by rw [List.length_append, HN.out]) (by rw [rowC_append]; exact HO5.out) (fun q hq => by
      rcases HN5.out q hq with z | z
      · exact .inl z
      · have := HB4.out.size; simp at z; exact .inr (by omega)) (fun q hq => by simp [hq]) (fun q hq => by
      rcases List.mem_append.1 hq with z | z
      · exact .inl z
      · have := r1lt q z; exact .inr ⟨this.1, by omega⟩) (fun q hq z => by
      rcases HN5.out q z with y | y
      · rcases List.mem_append.1 hq with x | x
        · exact (H3.out.lf q x).2.1 y
        · have := (r1lt q x).1; have := H3.out.v.lt q y; omega
      · simp at y
        rcases List.mem_append.1 hq with x | x
        · have := H3.out.lt q x; have := HB4.out.size; omega
        · have := (r1lt q x).2; omega) (fun x hx => by
      rcases List.mem_append.1 hx with z | z
      · exact ((H3.out.lw x z).touch HT5.out (fun q hq y => (H3.out.lf q hq).2.1 (by simpa using y))).mono (fun q hq => by simp [hq])
      · simp at z; subst z; exact r1at.mono (fun q hq => by simp [hq]))
  have T6 : Touch [g] w5 (w5.setCell ⟨g, 4, none⟩ (.slice A5 (n + 1) c5)) := (Touch.refl _ _).set (.inl (by simp)) _
  have hx1 : ∀ x, W.heap.size ≤ x → x < w3.heap.size → (w5.setCell ⟨g, 4, none⟩ (.slice A5 (n + 1) c5)).heap[x]? = w3.heap[x]? := fun x h1 h2 => by
    rw [T6.block x (Nat.lt_of_lt_of_le h2 HT5.out.size) (by have := HGL.out; simp; omega), HT5.out.block x h2 (fun z => by have := hfl.out x (HGV.out x z).2.2; omega)]
  have z1 := (hx1 W.heap.size (Nat.le_refl _) (bg_lt HY1.out)).trans HY1.out
  have z2 := (hx1 (W.heap.size + 1) (by omega) (bg_lt HY2.out)).trans HY2.out
  have l6 := letter_touch (letter_touch HL3.out HT5.out (fun q hq z => (HBL.out q hq).2 (HGV.out q z).2.2)) T6 (fun q hq z => (HBL.out q hq).2 (by simp at z; simp [fr, z]))
  have AP : W.heap.size + 1 ∉ fr g (.slice A5 (n + 1) c5) K ∧ W.heap.size + 1 ∉ L ++ r1.blocks := ⟨fun z => by
      have hlt : W.heap.size + 1 < w3.heap.size := bg_lt HY2.out
      rcases mem_fr.1 z with e | e | e
      · have := HGL.out; omega
      · rcases HN5.out _ e with y | y
        · have := hfl.out _ (mem_fr.2 (.inr (.inl y))); omega
        · have := HB4.out.size; simp at y; omega
      · have := hfl.out _ (mem_fr.2 (.inr (.inr e))); omega, fun z => by
      have hlt : W.heap.size + 1 < w3.heap.size := bg_lt HY2.out
      rcases List.mem_append.1 z with y | y
      · have := HLL.out _ y; omega
      · have := (r1lt _ y).1; omega⟩
  have TW6 : Touch (fr g (.slice A n c) K) W (w5.setCell ⟨g, 4, none⟩ (.slice A5 (n + 1) c5)) := ((HT3.out.mono (by simp [fr])).trans HT5.out (fun x hx => .inl (HGV.out x hx).2.2)).set (.inl (by simp [fr])) _
  have F6 : ∀ q ∈ fr g (.slice A5 (n + 1) c5) K, q ∈ fr g (.slice A n c) K ∨ W.heap.size ≤ q := fun q hq => by
    rcases mem_fr.1 hq with rfl | z | z
    · exact .inl (by simp [fr])
    · rcases HN5.out q z with y | y
      · exact .inl (mem_fr.2 (.inr (.inl y)))
      · have := HB4.out.size; have := HT3.out.size; simp at y; exact .inr (by omega)
    · exact .inl (mem_fr.2 (.inr (.inr z)))
  have L6 : ∀ q ∈ L ++ r1.blocks, q ∈ L ∨ W.heap.size ≤ q := fun q hq => by
    rcases List.mem_append.1 hq with z | z
    · exact .inl z
    · have := (r1lt q z).1; have := HT3.out.size; exact .inr (by omega)
  obtain ⟨w6, hw6⟩ : ∃ w6, w5.setCell ⟨g, 4, none⟩ (.slice A5 (n + 1) c5) = w6 := ⟨_, rfl⟩
  rw [hw6] at h6 z1 z2 l6 TW6 ⊢
  have HP := Lib.hid HA4.out.p
  have HAP := Lib.hid AP
  clear AP
  clear hw6 T6 t45 r1at r1lt hx1 sz5 hS4 hS5 hS6
  have HSP : Hid (∀ w', Below w6.heap.size w6 w' → Below w6.heap.size w6 w' ∧ w'.cell? ⟨g, 3, none⟩ = some (.int .i64 ((s.sent : Int) + 1))) := fun w' hb => ⟨hb, (h6.below hb).c3⟩
  have CP : Hid (∀ w, Below w6.heap.size w6 w → Calls Try.prog 28 #[.pointer (some ⟨g, 0, none⟩), .int .i64 ((s.sent : Int) + 1), .agg r.cells] w fun e w' => ∃ r', e = .returned (.agg (PR.mk s.me s.peer ((s.sent : Int) + 1) s.came r').cells) ∧ Below w.heap.size w w' ∧ Alike w w' r r') := fun w hb => packet_any (h6.below hb) _ r (l6.1.below hb) (l6.2.below hb) HSM.out
  have HZ1 := Lib.hid z1
  have HZ2 := Lib.hid z2
  have H6 := Lib.hid h6
  have HT6 := Lib.hid TW6
  have HF6 := Lib.hid F6
  have HL6 := Lib.hid L6
  clear h6 z1 z2 l6 TW6 F6 L6 HY1 HY2 HL3 CO HSS HFR H3 HO5 HG5 HN5 HV3 HB4 HA4 HT5 HT4
  --REGION B
  refine wp_region_till (fun w' => Below w6.heap.size w6 w' ∧ w'.cell? ⟨g, 3, none⟩ = some (.int .i64 ((s.sent : Int) + 1))) 7 (by kernel_rfl) ?_ (fun hHeld => ?_)
  · (try dsimp only); exact HSP.out _ (Below.refl _ _).drew
  refine wpAnyT_pure (i := 0) (oi := ⟨_, _, _, _, _, _⟩) (v := ?_) rfl (by kernel_rfl) (by kernel_rfl) (by kernel_rfl) (fun _ _ _ h => h) (by kernel_rfl) (Or.inl ⟨by rfl, ?_⟩) (by assumption) ?_
  rotate_left
  · (intro wS hSw; (try dsimp only at hSw); go_simp <;> with_reducible rfl)
  try simp only [Act.put, List.setIfInBounds_toArray, List.set_cons_zero, List.set_cons_succ]
  refine wpAnyT_pure (i := 1) (oi := ⟨_, _, _, _, _, _⟩) (v := ?_) rfl (by kernel_rfl) (by kernel_rfl) (by kernel_rfl) (fun _ _ _ h => h) (by kernel_rfl) (Or.inl ⟨by rfl, ?_⟩) (by assumption) ?_
  rotate_left
  · (intro wS hSw; (try dsimp only at hSw); go_simp <;> with_reducible rfl)
  try simp only [Act.put, List.setIfInBounds_toArray, List.set_cons_zero, List.set_cons_succ]
  refine wpAnyT_pure (i := 2) (oi := ⟨_, _, _, _, _, _⟩) (v := ?_) rfl (by kernel_rfl) (by kernel_rfl) (by kernel_rfl) (fun _ _ _ h => h) (by kernel_rfl) (Or.inl ⟨by rfl, ?_⟩) (by assumption) ?_
  rotate_left
  · (intro wS hSw; (try dsimp only at hSw); go_simp <;> with_reducible rfl)
  try simp only [Act.put, List.setIfInBounds_toArray, List.set_cons_zero, List.set_cons_succ]
  refine wpAnyT_pure (i := 3) (oi := ⟨_, _, _, _, _, _⟩) (v := ?_) rfl (by kernel_rfl) (by kernel_rfl) (by kernel_rfl) (fun _ _ _ h => h) (by kernel_rfl) (Or.inl ⟨by rfl, ?_⟩) (by assumption) ?_
  rotate_left
  · (intro wS hSw; (try dsimp only at hSw); go_simp <;> with_reducible rfl)
  try simp only [Act.put, List.setIfInBounds_toArray, List.set_cons_zero, List.set_cons_succ]
  refine wpAnyT_take (i := 4) (oi := ⟨_, _, _, _, _, _⟩) (v := ?_) rfl (by kernel_rfl) (by kernel_rfl) (by kernel_rfl) (fun _ _ _ h => h) (by kernel_rfl) (Or.inl ⟨by rfl, ?_⟩) (by assumption) ?_
  rotate_left
  · (intro wS hSw; (try dsimp only at hSw); go_simp <;> with_reducible rfl)
  try simp only [Act.put, List.setIfInBounds_toArray, List.set_cons_zero, List.set_cons_succ]
  refine wpAnyT_ready (rs := [5]) (by kernel_rfl) (by simp) ?_
  refine AllReadyT.cons (o := ⟨_, _, _, _, _, _⟩) rfl (fun K hK => ?_) AllReadyT.nil
  refine lk_step_load_row rfl 51 (.tmp 3) rfl W.heap.size rfl 51 r.cells (0, 0) _ HZ1.out Try.underlying51 rfl lk_infoL ?_
  refine hK.out _ _ (by (try dsimp only); first | assumption | exact HSP.out _ (Below.refl _ _).drew) (fun hHeld => ?_)
  clear hK K
  try simp only [Act.put, List.setIfInBounds_toArray, List.set_cons_zero, List.set_cons_succ]
  refine wpAnyT_ready (rs := [6]) (by kernel_rfl) (by simp) ?_
  refine AllReadyT.cons (o := ⟨_, _, _, _, _, _⟩) rfl (fun K hK => ?_) AllReadyT.nil
  go_simp
  (first | (go_at_call 28; (with_reducible refine (CP.out _ (Below.refl _ _).drew).mono ?_); rintro e w7 ⟨r2, rfl, hb7, ha7⟩; have hb7 : Below w6.heap.size w6 w7 := (Below.refl _ w6).drew.trans hb7; have HB7 := Lib.hid hb7; have HA7 := Lib.hid ha7; have hS7 := HSP.out w7 hb7; clear ha7))
  go_wp2_with fail
  refine hK.out _ _ (by (try dsimp only); first | assumption | exact HSP.out _ (Below.refl _ _).drew) (fun hHeld => ?_)
  clear hK K
  try simp only [Act.put, List.setIfInBounds_toArray, List.set_cons_zero, List.set_cons_succ]
  refine wpAnyT_ready (rs := [7]) (by kernel_rfl) (by simp) ?_
  refine AllReadyT.past (o := ⟨_, _, _, _, _, _⟩) rfl (by kernel_rfl) (fun K hK => ?_) AllReadyT.nil
  refine lk_step_store_row rfl 53 (.tmp 4) (.tmp 38) rfl (W.heap.size + 1) (PR.mk s.me s.peer ((s.sent : Int) + 1) s.came r2).cells rfl rfl 53 (lpCells 0 0 0 0 0 0) ((HB7.out.block _ (bg_lt HZ2.out)).trans HZ2.out) bg_infoP rfl (PR.one HA7.out.at_.sl) ?_
  refine hK.out _ _ ?_
  clear hK K
  try simp only [Act.put]
  refine wpAnyT_done (by kernel_rfl) ?_ _
  --END B
  go_wp2_with fail
  have y2 := (HB7.out.block _ (bg_lt HZ2.out)).trans HZ2.out
  refine bodyPost_ret (bg_result1 rfl _ _ (W.heap.size + 1) (PR.mk s.me s.peer ((s.sent : Int) + 1) s.came r2).cells rfl rfl (bg_row _ y2)) rfl ?_
  have T7 := bg_touch w7 (W.heap.size + 1) (PR.mk s.me s.peer ((s.sent : Int) + 1) s.came r2).cells
  have hs6 : W.heap.size + 1 < w6.heap.size := bg_lt HZ2.out
  have hnf : ∀ q ∈ fr g (.slice A5 (n + 1) c5) K, q < w6.heap.size := H6.out.flt
  have hl1 : W.heap.size + 1 ∉ fr g (.slice A5 (n + 1) c5) K ∧ W.heap.size + 1 ∉ L ++ r1.blocks := HAP.out
  refine ⟨r1, r2, rfl, HP.out, (HA7.out.touch T7 (fun x hx => .inl (by simp at hx; simp [hx]; exact hs6))).older (by simp; omega), ?_, .slice A5 (n + 1) c5, K, L ++ r1.blocks, (H6.out.below HB7.out).touch T7 (fun q hq z => hl1.1 (by simp at z; rw [← z]; exact hq)) (fun q hq z => hl1.2 (by simp at z; rw [← z]; exact hq)), HF6.out, HL6.out, fun q hq => ⟨?_, fun z => ?_⟩⟩
  · exact (HT6.out.trans (Touch.ofBelow (F := []) HB7.out) (by simp)).trans T7 (fun x hx => .inr (by simp at hx; omega))
  · have := (HA7.out.new q hq).2; have := T7.size; omega
  · have h9 : w6.heap.size ≤ q := (HA7.out.new q hq).1; have := hnf q z; omega
end Go.Proofs.Ytfemdfidfomchaa
