/-
  LinkPlays, walked: each packet, each letter that is told, against the document's link; what was told lies apart. (Written by tools/genLKPlays.py.)
-/
import Derived.Test.YtfemdfidfomchaaLinkPlayX
import Derived.Test.YtfemdfidfomchaaLinkNil
import Derived.Test.YtfemdfidfomchaaLinkAlive
import Derived.Test.YtfemdfidfomchaaHeldTill
import Derived.BigQuiet
namespace Go.Proofs.Ytfemdfidfomchaa
open Go.RowKit

/-- a box behind a new box -/
theorem bg_new_old {w : World} {q : Nat} {o : Obj} {old cs : Array Value} {T : TypeId} (h : w.heap[q]? = some o) : ((w.alloc (.cells old T)).setRow w.heap.size cs).heap[q]? = some o :=
  ((bg_new w old cs T).block q (bg_lt h)).trans h
theorem box_range {w : World} {q : Nat} {cs : Array Value} {T : TypeId} (h : w.heap[q]? = some (.cells cs T)) : w.rangeAt q 0 cs.toList := fun j v hj => by
  rw [Nat.zero_add]
  rw [Array.getElem?_toList] at hj
  exact bg_cell h hj
theorem opE_packet (x : OpV) : ∀ j v, x.p.cells.toList[j]? = some v → (opE x).toList[2 + j]? = some v := fun j v h => by rw [Nat.add_comm]; exact h
theorem opE_one {W : World} {x : OpV} (h : x.Ok W) : (opE x).all (·.oneCell') = true := by
  obtain ⟨A, c, h1, _⟩ := h.sa
  obtain ⟨B, d, h2, _⟩ := h.sb
  simp [opE, Value.oneCell', h1, h2]
abbrev zOp : Array Value := #[.int .i64 0, .int .i64 0, .int .i64 0, .int .i64 0, .int .i64 0, .int .i64 0, .int .i64 0, .int .i64 0, .int .i64 0, .int .i64 0, .int .i64 0, .string ⟨#[]⟩, .string ⟨#[]⟩, .string ⟨#[]⟩, .int .i64 0, .int .i64 0, .string ⟨#[]⟩, .slice none 0 0, .bool false, .string ⟨#[]⟩, .int .i64 0, .int .u64 0, .int .u64 0, .int .i64 0, .slice none 0 0, .int .i64 0, .int .i64 0]
theorem rest_eq (s : LS) : s.rest = (((s.waits.length : Int) + (s.kept.length : Int)) == 0) := by
  unfold LS.rest
  rw [Bool.eq_iff_iff]
  simp only [Bool.and_eq_true, decide_eq_true_eq, beq_iff_eq]
  omega
theorem lsAt_row {w : World} {base n c : Nat} {A : Option Addr} {ls : List LR} (h : w.ownsRow base 51 21 (.slice A n c) n (rowC LR.cells ls)) (hn : ls.length = n) (hl : ∀ r ∈ ls, SlAt w r.a r.l.ti ∧ SlAt w r.b r.l.li) : LsAt w A ls :=
  LsAt.own (L := ls.flatMap LR.blocks) h hn fun r hr => ⟨(hl r hr).1, (hl r hr).2, fun _ hq => List.mem_flatMap.2 ⟨r, hr, hq⟩⟩
set_option maxRecDepth 20000 in
set_option maxHeartbeats 40000000 in
theorem linkPlays_any (me peer : Int) (A : Option Addr) (c : Nat) (os : List OpV) (W : World) (hO : OpsAt W A os) (hlen : os.length ≤ 9223372036854775807) :
    Calls Try.prog 3 #[.int .i64 me, .int .i64 peer, .slice A os.length c] W fun e w' => e = .returned (.bool true) ∧ Below W.heap.size W w' := by
  have CA := Lib.hid (fun w : World => linkAlive_any w)
  obtain ⟨n, hn⟩ : ∃ n, os.length = n := ⟨_, rfl⟩
  have HN := Lib.hid hn
  have HO := Lib.hid hO
  rw [hn] at hlen ⊢
  clear hn hO
  by_cases c0 : 100 < n
  · have d0 : decide ((100 : Int) < (n : Int)) = true := by simp; omega
    go_enter Try.func3, Try.ntmps3
    go_wp2_with (go_at_call 10; (with_reducible refine (CA.out _).mono ?_); rintro e w2 ⟨rfl, h2⟩)
    go_ret
    exact ⟨rfl, h2⟩
  have d0 : decide ((100 : Int) < (n : Int)) = false := by simp; omega
  have CN : Hid (∀ w, Calls Try.prog 11 #[.int .i64 me, .int .i64 peer] w fun e w' => e = .returned (.pointer (some ⟨w.heap.size, 0, none⟩)) ∧ LNX w' w.heap.size (LS.new me peer) (.slice none 0 0) (.slice none 0 0) [] ∧ Below w.heap.size w w') := fun w => new_any me peer w
  go_enter Try.func3, Try.ntmps3
  go_upto_region 7 with (first
    | (go_at_call 10; (with_reducible refine (CA.out _).mono ?_); rintro e w1 ⟨rfl, h1⟩; have HB1 := Lib.hid h1; clear h1)
    | (go_at_call 11; (with_reducible refine (CN.out _).mono ?_); rintro e w2 ⟨rfl, hN, hb2⟩; have HX0 := Lib.hid (PX.start HB1.out hN hb2); clear hN hb2))
  obtain ⟨ga, hga⟩ : ∃ z, w1.heap.size = z := ⟨_, rfl⟩
  obtain ⟨gr, hgr⟩ : ∃ z, w2.heap.size = z := ⟨_, rfl⟩
  obtain ⟨gb, hgb⟩ : ∃ z, gr + 1 = z := ⟨_, rfl⟩
  rw [hga, hgr, hgb] at HX0
  try rw [hga]
  try rw [hgr]
  try rw [hgb]
  clear hga hgr hgb CN
  go_wp2
  go_loopg [10] (n + 1) (fun gh s10 wx => ∃ (i : Nat) (s : LS) (t : RL) (es : List (Value × List LR)), i + gh = n + 1 ∧ i ≤ n ∧ s10 = .int .i64 (i : Nat) ∧ Hid (PX W wx [] ga gr gb s t es nilV []) ∧ Hid (PInv W me peer s t es i))
  case atStart => exact ⟨0, _, _, [], by omega, by omega, rfl, HX0.out, PInv.new W me peer⟩
  case round =>
    obtain ⟨i, s, t, es, hig, hi, rfl, HX, HI⟩ := hrel
    by_cases hlt : i < n
    · have ii : (i : Int) < (n : Int) := by omega
      obtain ⟨x, hx⟩ : ∃ x, os[i]? = some x := ⟨os[i]'(by rw [HN.out]; exact hlt), List.getElem?_eq_getElem _⟩
      obtain ⟨q, o, hO1⟩ := HO.out
      obtain ⟨rfl, hq, hra, hxo⟩ := hO1 i x hx
      have HRA := Lib.hid (range_below hra hq HX.out.base)
      have HXO := Lib.hid hxo
      have hszo : (Try.prog.info? 55).map (·.size) = some (opE x).toList.length := by kernel_rfl
      have hszo2 : (Try.prog.info? 55).map (·.size) = some (opE x).size := by kernel_rfl
      have hono := opE_one hxo
      clear hx hO1 hra hxo hq
      go_upto_region 11 with (first
        | (refine wpList_load_mid rfl 55 (.tmp 54) rfl q (o + i * 27) rfl (opE x).toList _ HRA.out Try.underlying55 rfl hszo ?_)
        | (with_reducible (show wpList _ _ _ (⟨none, Op.store _ (Operand.tmp 11) _, _, _, _, _⟩ :: _) _ _); go_must (refine wpList_store_row rfl 55 (.tmp 11) (.tmp 55) rfl wr.heap.size (opE x) rfl rfl 55 zOp (heap_alloc_new wr _) hszo2 rfl hono ?_)))
      obtain ⟨h3, o3⟩ := HX.out.box zOp (opE x) 55
      obtain ⟨ob, hob⟩ : ∃ z, wr.heap.size = z := ⟨_, rfl⟩
      obtain ⟨w3, hw3⟩ : ∃ z, (wr.alloc (.cells zOp 55)).setRow wr.heap.size (opE x) = z := ⟨_, rfl⟩
      rw [hw3] at h3 o3 ⊢
      rw [hob] at h3 o3 ⊢
      have y0 : w3.cell? ⟨ob, 0, none⟩ = some (.int .i64 x.k) := bg_cell o3 rfl
      have y1 : w3.cell? ⟨ob, 1, none⟩ = some (.int .i64 x.n) := bg_cell o3 rfl
      have HX3 := Lib.hid h3
      have HOB := Lib.hid o3
      clear hw3 hob h3 o3 hszo hszo2 hono HRA HX
      by_cases hk1 : x.k = 1
      · skip
        have dk : (x.k == 1) = true := by simpa using hk1
        have hszl : (Try.prog.info? 51).map (·.size) = some (ltCells 1 x.n).size := lk_infoL
        have honl : (ltCells 1 x.n).all (·.oneCell') = true := LR.one (light_sl 1 x.n)
        go_upto_region 22 with (first
          | (with_reducible (show wpList _ _ _ (⟨none, Op.store _ (Operand.tmp 12) _, _, _, _, _⟩ :: _) _ _); go_must (refine wpList_store_row rfl 51 (.tmp 12) (.tmp 118) rfl w3.heap.size (ltCells 1 x.n) rfl rfl 51 (ltCells 0 0) (heap_alloc_new w3 _) hszl rfl honl ?_)))
        obtain ⟨h4, e4⟩ := HX3.out.box (ltCells 0 0) (ltCells 1 x.n) 51
        obtain ⟨lb, hlb⟩ : ∃ lb, w3.heap.size = lb := ⟨_, rfl⟩
        obtain ⟨w4, hw4⟩ : ∃ w4, (w3.alloc (.cells (ltCells 0 0) 51)).setRow w3.heap.size (ltCells 1 x.n) = w4 := ⟨_, rfl⟩
        rw [hw4] at h4 e4 ⊢
        rw [hlb] at h4 e4 ⊢
        clear hw4 hlb
        have hok := HI.out.ok (by omega)
        have hou := HI.out.outs (by omega)
        have hnu := HI.out.nums (by omega)
        have C1 : Hid (Calls Try.prog 13 #[.pointer (some ⟨ga, 0, none⟩), .agg (ltCells 1 x.n)] w4.drew fun e w' => e = .returned (.agg (lpCells s.me s.peer ((s.sent : Int) + 1) (s.came : Nat) 1 x.n)) ∧ PX W w' [lb, ob] ga gr gb (s.push (LR.light 1 x.n)) t es nilV [] ∧ KeepsB [lb, ob] w4.drew w') := (h4.below (Below.refl _ _).drew).send hok.1 x.n
        have C2 : Hid (∀ w, PX W w [lb, ob] ga gr gb (s.push (LR.light 1 x.n)) t es nilV [] → Calls Try.prog 14 #[.pointer (some ⟨gr, 0, none⟩), .agg (ltCells 1 x.n)] w fun e w' => e = .returned (.agg (lpCells t.me t.peer ((t.sent : Int) + 1) (t.came : Nat) 1 x.n)) ∧ PX W w' [lb, ob] ga gr gb (s.push (LR.light 1 x.n)) {t with sent := t.sent + 1, out := t.out ++ [(t.sent + 1, t.now, LR.light 1 x.n)]} es nilV [] ∧ KeepsB [lb, ob] w w') := fun w h => h.rsend hnu.1 hou.1 hou.2.1 x.n
        have C3 : Hid (∀ w, Calls Try.prog 12 #[.agg (lpCells s.me s.peer ((s.sent : Int) + 1) (s.came : Nat) 1 x.n), .agg (lpCells t.me t.peer ((t.sent : Int) + 1) (t.came : Nat) 1 x.n)] w fun e w' => e = .returned (.bool true) ∧ Below w.heap.size w w') := fun w => samePk_any ⟨s.me, s.peer, (s.sent : Int) + 1, (s.came : Nat), LR.light 1 x.n⟩ ⟨t.me, t.peer, (t.sent : Int) + 1, (t.came : Nat), LR.light 1 x.n⟩ w HI.out.rel.me HI.out.rel.peer (by show ((t.sent : Int) + 1) = _; rw [HI.out.rel.sent]) (by show ((t.came : Nat) : Int) = _; rw [HI.out.rel.came]) rfl (SlAt.nil _) (SlAt.nil _) (SlAt.nil _) (SlAt.nil _)
        have HPI := Lib.hid (HI.out.push x.n)
        have HH : Hid (∀ w' : World, w'.heap[lb]? = some (.cells (ltCells 1 x.n) 51) → w'.rangeAt lb 0 (ltCells 1 x.n).toList) := fun w' e j v hj => by
          rw [Nat.zero_add]
          rw [Array.getElem?_toList] at hj
          exact bg_cell e hj
        have HE4 : Hid (w4.drew.heap[lb]? = some (.cells (ltCells 1 x.n) 51)) := e4
        have hszL : (Try.prog.info? 51).map (·.size) = some (ltCells 1 x.n).toList.length := lk_infoL
        clear h4 e4 hok hou hnu hk1 dk hszl honl
        refine wp_region_held_drew (S := (fun w' => w'.rangeAt lb 0 (ltCells 1 x.n).toList)) (by kernel_rfl) ?_ (fun hHeld => ?_)
        · (try dsimp only); exact HH.out _ HE4.out
        refine wpAnyH_take (i := 0) (oi := ⟨_, _, _, _, _, _⟩) (v := ?_) rfl (by kernel_rfl) (by kernel_rfl) (by kernel_rfl) (fun _ _ _ h => h) (Or.inl ⟨by rfl, ?_⟩) (by assumption) ?_
        rotate_left
        · (intro wS hSw; (try dsimp only at hSw); go_simp <;> with_reducible rfl)
        try simp only [Act.put, List.setIfInBounds_toArray, List.set_cons_zero, List.set_cons_succ]
        refine wpAnyH_take (i := 1) (oi := ⟨_, _, _, _, _, _⟩) (v := .agg ((ltCells 1 x.n).toList).toArray) rfl (by kernel_rfl) (by kernel_rfl) (by kernel_rfl) (fun _ _ _ h => h) (yieldsIf_load_mid (by rfl) 51 (.tmp 12) rfl lb (0) rfl ((ltCells 1 x.n).toList) _ (fun _ h => h) Try.underlying51 rfl hszL) (by assumption) ?_
        try simp only [Act.put, List.setIfInBounds_toArray, List.set_cons_zero, List.set_cons_succ]
        try simp only [Array.toArray_toList]
        refine wpAnyH_take (i := 3) (oi := ⟨_, _, _, _, _, _⟩) (v := ?_) rfl (by kernel_rfl) (by kernel_rfl) (by kernel_rfl) (fun _ _ _ h => h) (Or.inl ⟨by rfl, ?_⟩) (by assumption) ?_
        rotate_left
        · (intro wS hSw; (try dsimp only at hSw); go_simp <;> with_reducible rfl)
        try simp only [Act.put, List.setIfInBounds_toArray, List.set_cons_zero, List.set_cons_succ]
        refine wpAnyH_take (i := 4) (oi := ⟨_, _, _, _, _, _⟩) (v := .agg ((ltCells 1 x.n).toList).toArray) rfl (by kernel_rfl) (by kernel_rfl) (by kernel_rfl) (fun _ _ _ h => h) (yieldsIf_load_mid (by rfl) 51 (.tmp 12) rfl lb (0) rfl ((ltCells 1 x.n).toList) _ (fun _ h => h) Try.underlying51 rfl hszL) (by assumption) ?_
        try simp only [Act.put, List.setIfInBounds_toArray, List.set_cons_zero, List.set_cons_succ]
        try simp only [Array.toArray_toList]
        refine wpAnyH_ready (rs := [2]) (by kernel_rfl) (by simp) ?_
        refine AllReadyH.cons (o := ⟨_, _, _, _, _, _⟩) rfl (fun K hK => ?_) AllReadyH.nil
        go_simp
        (go_at_call 13; (with_reducible refine (C1.out).mono ?_); rintro e w5 ⟨rfl, h5, k5⟩; have H5 := Lib.hid h5; have HE5 := Lib.hid (k5.heap (by simp) HE4.out); clear h5 k5)
        go_wp2_with fail
        refine hK.out _ _ (by (try dsimp only); exact HH.out _ HE5.out) (fun hHeld => ?_)
        clear hK K
        try simp only [Act.put, List.setIfInBounds_toArray, List.set_cons_zero, List.set_cons_succ]
        refine wpAnyH_ready (rs := [5]) (by kernel_rfl) (by simp) ?_
        refine AllReadyH.cons (o := ⟨_, _, _, _, _, _⟩) rfl (fun K hK => ?_) AllReadyH.nil
        go_simp
        (go_at_call 14; (with_reducible refine (C2.out _ H5.out).mono ?_); rintro e w6 ⟨rfl, h6, k6⟩; have H6 := Lib.hid h6; have HE6 := Lib.hid (k6.heap (by simp) HE5.out); clear h6 k6)
        go_wp2_with fail
        refine hK.out _ _ (by (try dsimp only); exact HH.out _ HE6.out) (fun hHeld => ?_)
        clear hK K
        try simp only [Act.put, List.setIfInBounds_toArray, List.set_cons_zero, List.set_cons_succ]
        refine wpAnyH_ready (rs := [6]) (by kernel_rfl) (by simp) ?_
        refine AllReadyH.cons (o := ⟨_, _, _, _, _, _⟩) rfl (fun K hK => ?_) AllReadyH.nil
        go_simp
        (go_at_call 12; (with_reducible refine (C3.out _).mono ?_); rintro e w7 ⟨rfl, b7⟩; have HB7 := Lib.hid b7; clear b7)
        go_wp2_with fail
        refine hK.out _ _ (by (try dsimp only); exact HH.out _ ((HB7.out.block _ (bg_lt HE6.out)).trans HE6.out)) (fun hHeld => ?_)
        clear hK K
        try simp only [Act.put, List.setIfInBounds_toArray, List.set_cons_zero, List.set_cons_succ]
        refine wpAnyH_take (i := 7) (oi := ⟨_, _, _, _, _, _⟩) (v := ?_) rfl (by kernel_rfl) (by kernel_rfl) (by kernel_rfl) (fun _ _ _ h => h) (Or.inl ⟨by rfl, ?_⟩) (by assumption) ?_
        rotate_left
        · (intro wS hSw; (try dsimp only at hSw); go_simp <;> with_reducible rfl)
        try simp only [Act.put, List.setIfInBounds_toArray, List.set_cons_zero, List.set_cons_succ]
        refine wpAnyH_done (by kernel_rfl) ?_ _
        obtain ⟨wT, hwT9⟩ : ∃ z : World, z = w7 := ⟨_, rfl⟩
        obtain ⟨sT, hsT⟩ : ∃ z : LS, (s.push (LR.light 1 x.n)) = z := ⟨_, rfl⟩
        obtain ⟨tT, htT⟩ : ∃ z : RL, ({t with sent := t.sent + 1, out := t.out ++ [(t.sent + 1, t.now, LR.light 1 x.n)]} : RL) = z := ⟨_, rfl⟩
        obtain ⟨esT, heT⟩ : ∃ z, es = z := ⟨_, rfl⟩
        have HT : Hid (PX W wT [lb, ob] ga gr gb sT tT esT nilV []) := by rw [hwT9, ← hsT, ← htT, ← heT]; exact H6.out.below HB7.out
        have HJ : Hid (PInv W me peer sT tT esT (i + 1)) := by rw [← hsT, ← htT, ← heT]; exact HPI.out
        rw [← hwT9]
        clear hwT9 hsT htT heT
        clear C1 C2 C3 HH HE4 HE5 HE6 H5 H6 HB7 HX3 HPI
        obtain ⟨-, ⟨A3, k3, c3⟩, c4, A5, k5, c5⟩ := HT.out.reads
        have ho9 := HJ.out.rel.outLen
        have hk9 := HJ.out.rel.keptLen
        have hc9 := HJ.out.rel.came
        have hb9 := (HJ.out.ok (by omega)).1
        have hb91 := hb9.kept
        have hb92 := hb9.waits
        have hb93 := hb9.sent
        have CW : Hid (∀ j, Calls Try.prog 21 #[.pointer (some ⟨ga, 0, none⟩)] (wT.drewN j) fun e w' => e = .returned (.int .i64 (sT.waits.length : Nat)) ∧ w' = wT.drewN j) := fun j => (HT.out.below (below_drewN (Below.refl _ _) j)).waits
        have CC : Hid (∀ j, Calls Try.prog 22 #[.pointer (some ⟨ga, 0, none⟩)] (wT.drewN j) fun e w' => e = .returned (.int .i64 (sT.came : Nat)) ∧ w' = wT.drewN j) := fun j => (HT.out.below (below_drewN (Below.refl _ _) j)).came
        have CR : Hid (∀ j, Calls Try.prog 23 #[.pointer (some ⟨ga, 0, none⟩)] (wT.drewN j) fun e w' => e = .returned (.bool (((sT.waits.length : Int) + (sT.kept.length : Int)) == 0)) ∧ w' = wT.drewN j) := fun j => by rw [← rest_eq]; exact (HT.out.below (below_drewN (Below.refl _ _) j)).rest
        obtain ⟨mT, hmT⟩ : ∃ z, sT.waits.length = z := ⟨_, rfl⟩
        obtain ⟨kT, hkT⟩ : ∃ z, sT.kept.length = z := ⟨_, rfl⟩
        obtain ⟨cT9, hcT⟩ : ∃ z, sT.came = z := ⟨_, rfl⟩
        rw [ho9] at c3
        rw [hk9] at c5
        rw [hc9] at c4
        rw [hmT] at CW CR c3 hb92
        rw [hkT] at CR c5 hb91
        rw [hcT] at CC c4
        have hwT : IntKind.i64.wrap ((mT : Int) + (kT : Int)) = (mT : Int) + (kT : Int) := by rw [IntKind.wrap_i64]; omega
        clear ho9 hk9 hc9 hb9 hmT hkT hcT
        go_upto_region 33 with fail
        go_quiet (first
          | (go_at_call 21; exact Calls.quiet_of_same (CW.out _))
          | (go_at_call 22; exact Calls.quiet_of_same (CC.out _))
          | (go_at_call 23; exact Calls.quiet_of_same (CR.out _)))
        go_wp2_with fail
        go_roundg (gk - 1)
        case measure => omega
        case rel => exact ⟨i + 1, sT, tT, esT, by omega, by omega, by go_num, (HT.out.below (below_drewN (Below.refl _ _) _)).less (by simp), HJ.out⟩
      · by_cases hk3 : x.k = 3
        · skip
          have dk1 : (x.k == 1) = false := by simpa using hk1
          have dk3 : (x.k == 3) = true := by simpa using hk3
          have hok := HI.out.ok (by omega)
          have hou := HI.out.outs (by omega)
          have hnu := HI.out.nums (by omega)
          have hdd := HI.out.rel.due
          cases hd : s.due with
          | false =>
            have C1 : Hid (Calls Try.prog 15 #[.pointer (some ⟨ga, 0, none⟩)] w3 fun e w' => e = .returned (.slice none 0 0) ∧ PX W w' [ob] ga gr gb s.tick t es nilV [] ∧ KeepsB [ob] w3 w') := HX3.out.tickNot hok.1 hd
            have C2 : Hid (∀ w, PX W w [ob] ga gr gb s.tick t es nilV [] → Calls Try.prog 16 #[.pointer (some ⟨gr, 0, none⟩)] w fun e w' => e = .returned (.slice none 0 0) ∧ PX W w' [ob] ga gr gb s.tick {t with now := t.now + 1} es nilV [] ∧ KeepsB [ob] w w') := fun w h => h.rtickNot hnu.2.1 hou.2.2 hou.1 (hdd.trans hd)
            have HPI := Lib.hid HI.out.tick
            clear hok hou hnu hdd hd
            go_upto_region 28 with (first
              | (go_at_call 15; (with_reducible refine (C1.out).mono ?_); rintro e w5 ⟨rfl, h5, k5⟩; have H5 := Lib.hid h5; clear h5 k5)
              | (go_at_call 16; (with_reducible refine (C2.out _ H5.out).mono ?_); rintro e w6 ⟨rfl, h6, k6⟩; have H6 := Lib.hid h6; clear h6 k6))
            obtain ⟨gz, rfl⟩ : ∃ gz : Nat, gz = gk := ⟨_, rfl⟩
            go_wp2
            go_loopg [15] 1 (fun gh s15 wx => gh = 1 ∧ s15 = .int .i64 0 ∧ wx = w6)
            case atStart => exact ⟨rfl, rfl, rfl⟩
            case round =>
              obtain ⟨hg1, rfl, rfl⟩ := hrel
              obtain ⟨wT, hwT9⟩ : ∃ z : World, z = wr := ⟨_, rfl⟩
              obtain ⟨sT, hsT⟩ : ∃ z : LS, (s.tick) = z := ⟨_, rfl⟩
              obtain ⟨tT, htT⟩ : ∃ z : RL, ({t with now := t.now + 1} : RL) = z := ⟨_, rfl⟩
              obtain ⟨esT, heT⟩ : ∃ z, es = z := ⟨_, rfl⟩
              have HT : Hid (PX W wT [ob] ga gr gb sT tT esT nilV []) := by rw [hwT9, ← hsT, ← htT, ← heT]; exact H6.out
              have HJ : Hid (PInv W me peer sT tT esT (i + 1)) := by rw [← hsT, ← htT, ← heT]; exact HPI.out
              rw [← hwT9]
              clear hwT9 hsT htT heT
              clear C1 C2 H5 H6 HX3 HPI
              obtain ⟨-, ⟨A3, k3, c3⟩, c4, A5, k5, c5⟩ := HT.out.reads
              have ho9 := HJ.out.rel.outLen
              have hk9 := HJ.out.rel.keptLen
              have hc9 := HJ.out.rel.came
              have hb9 := (HJ.out.ok (by omega)).1
              have hb91 := hb9.kept
              have hb92 := hb9.waits
              have hb93 := hb9.sent
              have CW : Hid (∀ j, Calls Try.prog 21 #[.pointer (some ⟨ga, 0, none⟩)] (wT.drewN j) fun e w' => e = .returned (.int .i64 (sT.waits.length : Nat)) ∧ w' = wT.drewN j) := fun j => (HT.out.below (below_drewN (Below.refl _ _) j)).waits
              have CC : Hid (∀ j, Calls Try.prog 22 #[.pointer (some ⟨ga, 0, none⟩)] (wT.drewN j) fun e w' => e = .returned (.int .i64 (sT.came : Nat)) ∧ w' = wT.drewN j) := fun j => (HT.out.below (below_drewN (Below.refl _ _) j)).came
              have CR : Hid (∀ j, Calls Try.prog 23 #[.pointer (some ⟨ga, 0, none⟩)] (wT.drewN j) fun e w' => e = .returned (.bool (((sT.waits.length : Int) + (sT.kept.length : Int)) == 0)) ∧ w' = wT.drewN j) := fun j => by rw [← rest_eq]; exact (HT.out.below (below_drewN (Below.refl _ _) j)).rest
              obtain ⟨mT, hmT⟩ : ∃ z, sT.waits.length = z := ⟨_, rfl⟩
              obtain ⟨kT, hkT⟩ : ∃ z, sT.kept.length = z := ⟨_, rfl⟩
              obtain ⟨cT9, hcT⟩ : ∃ z, sT.came = z := ⟨_, rfl⟩
              rw [ho9] at c3
              rw [hk9] at c5
              rw [hc9] at c4
              rw [hmT] at CW CR c3 hb92
              rw [hkT] at CR c5 hb91
              rw [hcT] at CC c4
              have hwT : IntKind.i64.wrap ((mT : Int) + (kT : Int)) = (mT : Int) + (kT : Int) := by rw [IntKind.wrap_i64]; omega
              clear ho9 hk9 hc9 hb9 hmT hkT hcT
              go_upto_region 33 with fail
              go_quiet (first
                | (go_at_call 21; exact Calls.quiet_of_same (CW.out _))
                | (go_at_call 22; exact Calls.quiet_of_same (CC.out _))
                | (go_at_call 23; exact Calls.quiet_of_same (CR.out _)))
              go_wp2_with fail
              go_roundg (gz - 1)
              case measure => omega
              case rel => exact ⟨i + 1, sT, tT, esT, by omega, by omega, by go_num, (HT.out.below (below_drewN (Below.refl _ _) _)).less (by simp), HJ.out⟩
          | true =>
            have C1 : Hid (Calls Try.prog 15 #[.pointer (some ⟨ga, 0, none⟩)] w3 fun e w' => ∃ T c, e = .returned (.slice T s.waits.length c) ∧ PX W w' ((Value.slice T s.waits.length c).ownBlock.toList ++ [ob]) ga gr gb s.again t es nilV [] ∧ KeepsB [ob] w3 w' ∧ w'.ownsRow w3.heap.size 53 25 (.slice T s.waits.length c) s.waits.length (rowC PR.cells ((numb (s.sent - s.waits.length + 1) s.waits).map fun x => (⟨s.me, s.peer, (x.1 : Nat), (s.came : Nat), x.2.2⟩ : PR)))) := HX3.out.tickDue hok.1 HI.out.lt hd
            have C2 : Hid (∀ w B, PX W w B ga gr gb s.again t es nilV [] → Calls Try.prog 16 #[.pointer (some ⟨gr, 0, none⟩)] w fun e w' => ∃ T c, e = .returned (.slice T t.out.length c) ∧ PX W w' B ga gr gb s.again {t with now := t.now + 1, out := t.out.map fun x => (x.1, t.now + 1, x.2.2)} es nilV [] ∧ KeepsB B w w' ∧ w'.ownsRow w.heap.size 53 25 (.slice T t.out.length c) t.out.length (rowC PR.cells (rps t t.out))) := fun w B h => h.rtickDue hnu.2.1 hou.2.2 hou.1 hou.2.1 (hdd.trans hd)
            have HPI := Lib.hid HI.out.again
            have hps : rps t t.out = (numb (s.sent - s.waits.length + 1) s.waits).map fun x => (⟨s.me, s.peer, (x.1 : Nat), (s.came : Nat), x.2.2⟩ : PR) := by
              unfold rps
              rw [HI.out.rel.out, HI.out.rel.me, HI.out.rel.peer, HI.out.rel.came]
            have hlen := HI.out.rel.outLen
            rw [hps, hlen] at C2
            have hpl : ((numb (s.sent - s.waits.length + 1) s.waits).map fun x => (⟨s.me, s.peer, (x.1 : Nat), (s.came : Nat), x.2.2⟩ : PR)).length = s.waits.length := by rw [List.length_map, numb_length]
            have hpsl : ∀ p ∈ (numb (s.sent - s.waits.length + 1) s.waits).map (fun x => (⟨s.me, s.peer, (x.1 : Nat), (s.came : Nat), x.2.2⟩ : PR)), ∃ k j, p.r = LR.light k j := fun p hp => by
              obtain ⟨y, hy, rfl⟩ := List.mem_map.1 hp
              obtain ⟨z, z1, z2, z3⟩ := numb_mem hy
              obtain ⟨k, j, e⟩ := HI.out.lt z z1
              exact ⟨k, j, by rw [← z3]; exact e⟩
            obtain ⟨ps, hpd⟩ : ∃ ps, ((numb (s.sent - s.waits.length + 1) s.waits).map fun x => (⟨s.me, s.peer, (x.1 : Nat), (s.came : Nat), x.2.2⟩ : PR)) = ps := ⟨_, rfl⟩
            obtain ⟨m, hm⟩ : ∃ m, s.waits.length = m := ⟨_, rfl⟩
            have hmb : m ≤ 1000 := by have := hok.1.waits; have := HI.out.sent; omega
            rw [hpd, hm] at C1 C2 hpl
            rw [hpd] at hpsl
            have HPL := Lib.hid hpl
            have HPS := Lib.hid hpsl
            clear hok hou hnu hdd hd hps hlen hpd hm hpl hpsl
            go_upto_region 28 with (first
              | (go_at_call 15; (with_reducible refine (C1.out).mono ?_); rintro e w5 ⟨TA, cA, rfl, h5, k5, r5⟩; have H5 := Lib.hid h5; have HR5 := Lib.hid r5; clear h5 k5 r5)
              | (go_at_call 16; (with_reducible refine (C2.out _ _ H5.out).mono ?_); rintro e w6 ⟨TB, cB, rfl, h6, k6, r6⟩; have H6 := Lib.hid h6; have HA6 := Lib.hid (k6.row HR5.out (fun q hq => by simp [hq])); have HR6 := Lib.hid r6; clear h6 k6 r6))
            obtain ⟨gz, rfl⟩ : ∃ gz : Nat, gz = gk := ⟨_, rfl⟩
            go_wp2
            go_loopg [15] (m + 1) (fun gh s15 wx => ∃ k : Nat, k + gh = m + 1 ∧ k ≤ m ∧ s15 = .int .i64 (k : Nat) ∧ Hid (Below w6.heap.size w6 wx))
            case atStart => exact ⟨0, by omega, by omega, rfl, Below.refl _ _⟩
            case round =>
              obtain ⟨k, hkg, hkm, rfl, HW⟩ := hrel
              by_cases hlk : k < m
              · have ki : (k : Int) < (m : Int) := by omega
                obtain ⟨pk, hpk⟩ : ∃ pk, ps[k]? = some pk := ⟨ps[k]'(by rw [HPL.out]; exact hlk), List.getElem?_eq_getElem _⟩
                obtain ⟨qa, rfl⟩ := lk_at HA6.out (by omega)
                obtain ⟨qb, rfl⟩ := lk_at HR6.out (by omega)
                obtain ⟨k1, k2, hk12⟩ := HPS.out pk (List.mem_of_getElem? hpk)
                have hst : ∀ w', Below w6.heap.size w6 w' → w'.rangeAt qa (k * 25) pk.cells.toList ∧ w'.rangeAt qb (k * 25) pk.cells.toList := fun w' hb => ⟨row_rangeE pE_size (lk_below HA6.out hb) hpk, row_rangeE pE_size (lk_below HR6.out hb) hpk⟩
                have C3 : Hid (∀ w, Calls Try.prog 12 #[.agg pk.cells, .agg pk.cells] w fun e w' => e = .returned (.bool true) ∧ Below w.heap.size w w') := fun w => samePk_any pk pk w rfl rfl rfl rfl rfl (by rw [hk12]; exact SlAt.nil _) (by rw [hk12]; exact SlAt.nil _) (by rw [hk12]; exact SlAt.nil _) (by rw [hk12]; exact SlAt.nil _)
                have hszp : (Try.prog.info? 53).map (·.size) = some pk.cells.toList.length := bg_infoP
                have HST := Lib.hid hst
                clear hst hpk hk12
                obtain ⟨cr, hcr⟩ : ∃ cr, pk.cells = cr := ⟨_, rfl⟩
                rw [hcr] at HST C3 hszp
                clear hcr
                go_upto_region 31 with fail
                refine wp_region_held_drew (S := fun w' => w'.rangeAt qa (k * 25) cr.toList ∧ w'.rangeAt qb (k * 25) cr.toList) (by kernel_rfl) ?_ (fun hHeld => ?_)
                · (try dsimp only); exact HST.out _ (HW.out.trans ((Below.refl _ _).drew.mono HW.out.size))
                refine wpAnyH_take (i := 0) (oi := ⟨_, _, _, _, _, _⟩) (v := ?_) rfl (by kernel_rfl) (by kernel_rfl) (by kernel_rfl) (fun _ _ _ h => h) (Or.inl ⟨by rfl, ?_⟩) (by assumption) ?_
                rotate_left
                · (intro wS hSw; (try dsimp only at hSw); go_simp <;> with_reducible rfl)
                try simp only [Act.put, List.setIfInBounds_toArray, List.set_cons_zero, List.set_cons_succ]
                refine wpAnyH_take (i := 1) (oi := ⟨_, _, _, _, _, _⟩) (v := ?_) rfl (by kernel_rfl) (by kernel_rfl) (by kernel_rfl) (fun _ _ _ h => h) (Or.inl ⟨by rfl, ?_⟩) (by assumption) ?_
                rotate_left
                · (intro wS hSw; (try dsimp only at hSw); go_simp <;> with_reducible rfl)
                try simp only [Act.put, List.setIfInBounds_toArray, List.set_cons_zero, List.set_cons_succ]
                refine wpAnyH_take (i := 2) (oi := ⟨_, _, _, _, _, _⟩) (v := ?_) rfl (by kernel_rfl) (by kernel_rfl) (by kernel_rfl) (fun _ _ _ h => h) (Or.inl ⟨by rfl, ?_⟩) (by assumption) ?_
                rotate_left
                · (intro wS hSw; (try dsimp only at hSw); go_simp <;> with_reducible rfl)
                try simp only [Act.put, List.setIfInBounds_toArray, List.set_cons_zero, List.set_cons_succ]
                refine wpAnyH_take (i := 3) (oi := ⟨_, _, _, _, _, _⟩) (v := .agg (cr.toList).toArray) rfl (by kernel_rfl) (by kernel_rfl) (by kernel_rfl) (fun _ _ _ h => h) (yieldsIf_load_mid (by rfl) 53 (.tmp 146) rfl qa (k * 25) rfl (cr.toList) _ (fun _ h => h.1) Try.underlying53 rfl hszp) (by assumption) ?_
                try simp only [Act.put, List.setIfInBounds_toArray, List.set_cons_zero, List.set_cons_succ]
                try simp only [Array.toArray_toList]
                refine wpAnyH_take (i := 4) (oi := ⟨_, _, _, _, _, _⟩) (v := ?_) rfl (by kernel_rfl) (by kernel_rfl) (by kernel_rfl) (fun _ _ _ h => h) (Or.inl ⟨by rfl, ?_⟩) (by assumption) ?_
                rotate_left
                · (intro wS hSw; (try dsimp only at hSw); go_simp <;> with_reducible rfl)
                try simp only [Act.put, List.setIfInBounds_toArray, List.set_cons_zero, List.set_cons_succ]
                refine wpAnyH_take (i := 5) (oi := ⟨_, _, _, _, _, _⟩) (v := ?_) rfl (by kernel_rfl) (by kernel_rfl) (by kernel_rfl) (fun _ _ _ h => h) (Or.inl ⟨by rfl, ?_⟩) (by assumption) ?_
                rotate_left
                · (intro wS hSw; (try dsimp only at hSw); go_simp <;> with_reducible rfl)
                try simp only [Act.put, List.setIfInBounds_toArray, List.set_cons_zero, List.set_cons_succ]
                refine wpAnyH_take (i := 6) (oi := ⟨_, _, _, _, _, _⟩) (v := ?_) rfl (by kernel_rfl) (by kernel_rfl) (by kernel_rfl) (fun _ _ _ h => h) (Or.inl ⟨by rfl, ?_⟩) (by assumption) ?_
                rotate_left
                · (intro wS hSw; (try dsimp only at hSw); go_simp <;> with_reducible rfl)
                try simp only [Act.put, List.setIfInBounds_toArray, List.set_cons_zero, List.set_cons_succ]
                refine wpAnyH_take (i := 7) (oi := ⟨_, _, _, _, _, _⟩) (v := .agg (cr.toList).toArray) rfl (by kernel_rfl) (by kernel_rfl) (by kernel_rfl) (fun _ _ _ h => h) (yieldsIf_load_mid (by rfl) 53 (.tmp 150) rfl qb (k * 25) rfl (cr.toList) _ (fun _ h => h.2) Try.underlying53 rfl hszp) (by assumption) ?_
                try simp only [Act.put, List.setIfInBounds_toArray, List.set_cons_zero, List.set_cons_succ]
                try simp only [Array.toArray_toList]
                refine wpAnyH_ready (rs := [8]) (by kernel_rfl) (by simp) ?_
                refine AllReadyH.cons (o := ⟨_, _, _, _, _, _⟩) rfl (fun K hK => ?_) AllReadyH.nil
                go_simp
                (go_at_call 12; (with_reducible refine (C3.out _).mono ?_); rintro e w7 ⟨rfl, b7⟩; have HB7 : Hid (Below wr.heap.size wr w7) := ((Below.refl wr.heap.size wr).drew).trans b7; clear b7)
                go_wp2_with fail
                refine hK.out _ _ (by (try dsimp only); exact HST.out _ (acc HW.out HB7.out)) (fun hHeld => ?_)
                clear hK K
                try simp only [Act.put, List.setIfInBounds_toArray, List.set_cons_zero, List.set_cons_succ]
                refine wpAnyH_take (i := 9) (oi := ⟨_, _, _, _, _, _⟩) (v := ?_) rfl (by kernel_rfl) (by kernel_rfl) (by kernel_rfl) (fun _ _ _ h => h) (Or.inl ⟨by rfl, ?_⟩) (by assumption) ?_
                rotate_left
                · (intro wS hSw; (try dsimp only at hSw); go_simp <;> with_reducible rfl)
                try simp only [Act.put, List.setIfInBounds_toArray, List.set_cons_zero, List.set_cons_succ]
                refine wpAnyH_done (by kernel_rfl) ?_ _
                go_wp2_with fail
                go_roundg (gk - 1)
                case measure => omega
                case rel => exact ⟨k + 1, by omega, by omega, by go_num, acc HW.out HB7.out⟩
              · obtain rfl : m = k := by omega
                obtain ⟨wT, hwT9⟩ : ∃ z : World, z = wr := ⟨_, rfl⟩
                obtain ⟨sT, hsT⟩ : ∃ z : LS, (s.again) = z := ⟨_, rfl⟩
                obtain ⟨tT, htT⟩ : ∃ z : RL, ({t with now := t.now + 1, out := t.out.map fun x => (x.1, t.now + 1, x.2.2)} : RL) = z := ⟨_, rfl⟩
                obtain ⟨esT, heT⟩ : ∃ z, es = z := ⟨_, rfl⟩
                have HT : Hid (PX W wT ((Value.slice TA m cA).ownBlock.toList ++ [ob]) ga gr gb sT tT esT nilV []) := by rw [hwT9, ← hsT, ← htT, ← heT]; exact H6.out.below HW.out
                have HJ : Hid (PInv W me peer sT tT esT (i + 1)) := by rw [← hsT, ← htT, ← heT]; exact HPI.out
                rw [← hwT9]
                clear hwT9 hsT htT heT
                clear C1 C2 H5 H6 HX3 HPI HR5 HA6 HR6 HPL HPS HW
                obtain ⟨-, ⟨A3, k3, c3⟩, c4, A5, k5, c5⟩ := HT.out.reads
                have ho9 := HJ.out.rel.outLen
                have hk9 := HJ.out.rel.keptLen
                have hc9 := HJ.out.rel.came
                have hb9 := (HJ.out.ok (by omega)).1
                have hb91 := hb9.kept
                have hb92 := hb9.waits
                have hb93 := hb9.sent
                have CW : Hid (∀ j, Calls Try.prog 21 #[.pointer (some ⟨ga, 0, none⟩)] (wT.drewN j) fun e w' => e = .returned (.int .i64 (sT.waits.length : Nat)) ∧ w' = wT.drewN j) := fun j => (HT.out.below (below_drewN (Below.refl _ _) j)).waits
                have CC : Hid (∀ j, Calls Try.prog 22 #[.pointer (some ⟨ga, 0, none⟩)] (wT.drewN j) fun e w' => e = .returned (.int .i64 (sT.came : Nat)) ∧ w' = wT.drewN j) := fun j => (HT.out.below (below_drewN (Below.refl _ _) j)).came
                have CR : Hid (∀ j, Calls Try.prog 23 #[.pointer (some ⟨ga, 0, none⟩)] (wT.drewN j) fun e w' => e = .returned (.bool (((sT.waits.length : Int) + (sT.kept.length : Int)) == 0)) ∧ w' = wT.drewN j) := fun j => by rw [← rest_eq]; exact (HT.out.below (below_drewN (Below.refl _ _) j)).rest
                obtain ⟨mT, hmT⟩ : ∃ z, sT.waits.length = z := ⟨_, rfl⟩
                obtain ⟨kT, hkT⟩ : ∃ z, sT.kept.length = z := ⟨_, rfl⟩
                obtain ⟨cT9, hcT⟩ : ∃ z, sT.came = z := ⟨_, rfl⟩
                rw [ho9] at c3
                rw [hk9] at c5
                rw [hc9] at c4
                rw [hmT] at CW CR c3 hb92
                rw [hkT] at CR c5 hb91
                rw [hcT] at CC c4
                have hwT : IntKind.i64.wrap ((mT : Int) + (kT : Int)) = (mT : Int) + (kT : Int) := by rw [IntKind.wrap_i64]; omega
                clear ho9 hk9 hc9 hb9 hmT hkT hcT
                go_upto_region 33 with fail
                go_quiet (first
                  | (go_at_call 21; exact Calls.quiet_of_same (CW.out _))
                  | (go_at_call 22; exact Calls.quiet_of_same (CC.out _))
                  | (go_at_call 23; exact Calls.quiet_of_same (CR.out _)))
                go_wp2_with fail
                go_roundg (gz - 1)
                case measure => omega
                case rel => exact ⟨i + 1, sT, tT, esT, by omega, by omega, by go_num, (HT.out.below (below_drewN (Below.refl _ _) _)).less (by simp), HJ.out⟩
        · have dk1 : (x.k == 1) = false := by simpa using hk1
          have dk3 : (x.k == 3) = false := by simpa using hk3
          have HRP : Hid (w3.rangeAt ob 2 x.p.cells.toList) := by have := mid_range (box_range HOB.out) (opE_packet x); rwa [Nat.zero_add] at this
          have hszx : (Try.prog.info? 53).map (·.size) = some x.p.cells.toList.length := bg_infoP
          have hszy : (Try.prog.info? 53).map (·.size) = some x.p.cells.size := bg_infoP
          have honx : x.p.cells.all (·.oneCell') = true := PR.one (by obtain ⟨A, c, e1, _⟩ := HXO.out.sa; obtain ⟨B, d, e2, _⟩ := HXO.out.sb; exact ⟨⟨_, _, _, e1⟩, _, _, _, e2⟩)
          go_upto_region 13 with (first
            | (refine wpList_load_mid rfl 53 (.tmp 58) rfl ob 2 rfl x.p.cells.toList _ HRP.out Try.underlying53 rfl hszx ?_)
            | (with_reducible (show wpList _ _ _ (⟨none, Op.store _ (Operand.tmp 16) _, _, _, _, _⟩ :: _) _ _); go_must (refine wpList_store_row rfl 53 (.tmp 16) (.tmp 59) rfl w3.heap.size x.p.cells rfl rfl 53 (lpCells 0 0 0 0 0 0) (heap_alloc_new w3 _) hszy rfl honx ?_)))
          have h4 := bg_new w3 (lpCells 0 0 0 0 0 0) x.p.cells 53
          have e4 := bg_row x.p.cells (heap_alloc_new w3 (.cells (lpCells 0 0 0 0 0 0) 53))
          have o4 := bg_new_old (old := lpCells 0 0 0 0 0 0) (cs := x.p.cells) (T := 53) HOB.out
          obtain ⟨pb, hpb⟩ : ∃ z, w3.heap.size = z := ⟨_, rfl⟩
          have hpob : ob ≠ pb := by have := bg_lt HOB.out; omega
          obtain ⟨w4, hw4⟩ : ∃ z, (w3.alloc (.cells (lpCells 0 0 0 0 0 0) 53)).setRow w3.heap.size x.p.cells = z := ⟨_, rfl⟩
          rw [hw4] at h4 e4 o4 ⊢
          rw [hpb] at e4 ⊢
          have y0 : w4.cell? ⟨ob, 0, none⟩ = some (.int .i64 x.k) := bg_cell o4 rfl
          have HPP := Lib.hid hpb
          have HX4 := Lib.hid h4
          have HE4 := Lib.hid e4
          have HO4 := Lib.hid o4
          clear hw4 hpb h4 e4 o4 HRP hszx HOB
          by_cases hk4 : x.k = 4
          · skip
            have dk4 : (x.k == 4) = true := by simpa using hk4
            obtain ⟨sq, hsq, hsqb⟩ := and_nat x.p.s 127 (by omega)
            obtain ⟨ak, hak, hakb⟩ := and_nat x.p.a 15 (by omega)
            have hsqb : bits BinOp.and IntKind.i64 x.p.s 127 = (sq : Nat) := hsqb
            have hakb : bits BinOp.and IntKind.i64 x.p.a 15 = (ak : Nat) := hakb
            obtain ⟨aI, haI⟩ : ∃ z : Int, ((ak : Nat) : Int) = z := ⟨_, rfl⟩
            obtain ⟨sI, hsI⟩ : ∃ z : Int, ((t.sent : Nat) : Int) = z := ⟨_, rfl⟩
            obtain ⟨av, hava⟩ : ∃ av : Int, (if sI < aI then sI else aI) = av := ⟨_, rfl⟩
            rw [haI] at hakb
            have HS4 : Hid (w4.drew.cell? ⟨ob, 1, none⟩ = some (.int .i64 x.n) ∧ w4.drew.cell? ⟨ob, 4, none⟩ = some (.int .i64 x.p.s) ∧ w4.drew.cell? ⟨ob, 5, none⟩ = some (.int .i64 x.p.a) ∧ w4.drew.cell? ⟨gr, 2, none⟩ = some (.int .i64 sI)) := ⟨bg_cell HO4.out rfl, bg_cell HO4.out rfl, bg_cell HO4.out rfl, by rw [← hsI]; exact (HX3.out.below HX4.out).reads.1⟩
            clear haI hsI
            go_upto_region 14 with fail
            refine wp_region_till (fun w' => w'.cell? ⟨ob, 1, none⟩ = some (.int .i64 x.n) ∧ w'.cell? ⟨ob, 4, none⟩ = some (.int .i64 x.p.s) ∧ w'.cell? ⟨ob, 5, none⟩ = some (.int .i64 x.p.a) ∧ w'.cell? ⟨gr, 2, none⟩ = some (.int .i64 sI)) 19 (by kernel_rfl) ?_ (fun hHeld => ?_)
            · (try dsimp only); exact HS4.out
            refine wpAnyT_pure (i := 0) (oi := ⟨_, _, _, _, _, _⟩) (v := ?_) rfl (by kernel_rfl) (by kernel_rfl) (by kernel_rfl) (fun _ _ _ h => h) (by kernel_rfl) (Or.inl ⟨by rfl, ?_⟩) (by assumption) ?_
            rotate_left
            · (intro wS hSw; (try dsimp only at hSw); go_simp <;> with_reducible rfl)
            try simp only [Act.put, List.setIfInBounds_toArray, List.set_cons_zero, List.set_cons_succ]
            refine wpAnyT_pure (i := 1) (oi := ⟨_, _, _, _, _, _⟩) (v := ?_) rfl (by kernel_rfl) (by kernel_rfl) (by kernel_rfl) (fun _ _ _ h => h) (by kernel_rfl) (Or.inl ⟨by rfl, ?_⟩) (by assumption) ?_
            rotate_left
            · (intro wS hSw; (try dsimp only at hSw); go_simp <;> with_reducible rfl)
            try simp only [Act.put, List.setIfInBounds_toArray, List.set_cons_zero, List.set_cons_succ]
            refine wpAnyT_pure (i := 2) (oi := ⟨_, _, _, _, _, _⟩) (v := ?_) rfl (by kernel_rfl) (by kernel_rfl) (by kernel_rfl) (fun _ _ _ h => h) (by kernel_rfl) (Or.inl ⟨by rfl, ?_⟩) (by assumption) ?_
            rotate_left
            · (intro wS hSw; (try dsimp only at hSw); go_simp <;> with_reducible rfl)
            try simp only [Act.put, List.setIfInBounds_toArray, List.set_cons_zero, List.set_cons_succ]
            refine wpAnyT_pure (i := 3) (oi := ⟨_, _, _, _, _, _⟩) (v := ?_) rfl (by kernel_rfl) (by kernel_rfl) (by kernel_rfl) (fun _ _ _ h => h) (by kernel_rfl) (Or.inl ⟨by rfl, ?_⟩) (by assumption) ?_
            rotate_left
            · (intro wS hSw; (try dsimp only at hSw); go_simp <;> with_reducible rfl)
            try simp only [Act.put, List.setIfInBounds_toArray, List.set_cons_zero, List.set_cons_succ]
            refine wpAnyT_pure (i := 6) (oi := ⟨_, _, _, _, _, _⟩) (v := ?_) rfl (by kernel_rfl) (by kernel_rfl) (by kernel_rfl) (fun _ _ _ h => h) (by kernel_rfl) (Or.inl ⟨by rfl, ?_⟩) (by assumption) ?_
            rotate_left
            · (intro wS hSw; (try dsimp only at hSw); go_simp <;> with_reducible rfl)
            try simp only [Act.put, List.setIfInBounds_toArray, List.set_cons_zero, List.set_cons_succ]
            refine wpAnyT_pure (i := 7) (oi := ⟨_, _, _, _, _, _⟩) (v := ?_) rfl (by kernel_rfl) (by kernel_rfl) (by kernel_rfl) (fun _ _ _ h => h) (by kernel_rfl) (Or.inl ⟨by rfl, ?_⟩) (by assumption) ?_
            rotate_left
            · (intro wS hSw; (try dsimp only at hSw); go_simp <;> with_reducible rfl)
            try simp only [Act.put, List.setIfInBounds_toArray, List.set_cons_zero, List.set_cons_succ]
            refine wpAnyT_pure (i := 10) (oi := ⟨_, _, _, _, _, _⟩) (v := ?_) rfl (by kernel_rfl) (by kernel_rfl) (by kernel_rfl) (fun _ _ _ h => h) (by kernel_rfl) (Or.inl ⟨by rfl, ?_⟩) (by assumption) ?_
            rotate_left
            · (intro wS hSw; (try dsimp only at hSw); go_simp <;> with_reducible rfl)
            try simp only [Act.put, List.setIfInBounds_toArray, List.set_cons_zero, List.set_cons_succ]
            refine wpAnyT_pure (i := 11) (oi := ⟨_, _, _, _, _, _⟩) (v := ?_) rfl (by kernel_rfl) (by kernel_rfl) (by kernel_rfl) (fun _ _ _ h => h) (by kernel_rfl) (Or.inl ⟨by rfl, ?_⟩) (by assumption) ?_
            rotate_left
            · (intro wS hSw; (try dsimp only at hSw); go_simp <;> with_reducible rfl)
            try simp only [Act.put, List.setIfInBounds_toArray, List.set_cons_zero, List.set_cons_succ]
            refine wpAnyT_pure (i := 12) (oi := ⟨_, _, _, _, _, _⟩) (v := ?_) rfl (by kernel_rfl) (by kernel_rfl) (by kernel_rfl) (fun _ _ _ h => h) (by kernel_rfl) (Or.inl ⟨by rfl, ?_⟩) (by assumption) ?_
            rotate_left
            · (intro wS hSw; (try dsimp only at hSw); go_simp <;> with_reducible rfl)
            try simp only [Act.put, List.setIfInBounds_toArray, List.set_cons_zero, List.set_cons_succ]
            refine wpAnyT_pure (i := 15) (oi := ⟨_, _, _, _, _, _⟩) (v := ?_) rfl (by kernel_rfl) (by kernel_rfl) (by kernel_rfl) (fun _ _ _ h => h) (by kernel_rfl) (Or.inl ⟨by rfl, ?_⟩) (by assumption) ?_
            rotate_left
            · (intro wS hSw; (try dsimp only at hSw); go_simp <;> with_reducible rfl)
            try simp only [Act.put, List.setIfInBounds_toArray, List.set_cons_zero, List.set_cons_succ]
            refine wpAnyT_take (i := 4) (oi := ⟨_, _, _, _, _, _⟩) (v := ?_) rfl (by kernel_rfl) (by kernel_rfl) (by kernel_rfl) (fun _ _ _ h => h) (by kernel_rfl) (Or.inl ⟨by rfl, ?_⟩) (by assumption) ?_
            rotate_left
            · (intro wS hSw; (try dsimp only at hSw); go_simp <;> with_reducible rfl)
            try simp only [Act.put, List.setIfInBounds_toArray, List.set_cons_zero, List.set_cons_succ]
            refine wpAnyT_pure (i := 5) (oi := ⟨_, _, _, _, _, _⟩) (v := ?_) rfl (by kernel_rfl) (by kernel_rfl) (by kernel_rfl) (fun _ _ _ h => h) (by kernel_rfl) (Or.inl ⟨by rfl, ?_⟩) (by assumption) ?_
            rotate_left
            · (intro wS hSw; (try dsimp only at hSw); go_simp <;> with_reducible rfl)
            try simp only [Act.put, List.setIfInBounds_toArray, List.set_cons_zero, List.set_cons_succ]
            refine wpAnyT_take (i := 8) (oi := ⟨_, _, _, _, _, _⟩) (v := ?_) rfl (by kernel_rfl) (by kernel_rfl) (by kernel_rfl) (fun _ _ _ h => h) (by kernel_rfl) (Or.inl ⟨by rfl, ?_⟩) (by assumption) ?_
            rotate_left
            · (intro wS hSw; (try dsimp only at hSw); go_simp <;> with_reducible rfl)
            try simp only [Act.put, List.setIfInBounds_toArray, List.set_cons_zero, List.set_cons_succ]
            refine wpAnyT_pure (i := 9) (oi := ⟨_, _, _, _, _, _⟩) (v := ?_) rfl (by kernel_rfl) (by kernel_rfl) (by kernel_rfl) (fun _ _ _ h => h) (by kernel_rfl) (Or.inl ⟨by rfl, ?_⟩) (by assumption) ?_
            rotate_left
            · (intro wS hSw; (try dsimp only at hSw); go_simp <;> with_reducible rfl)
            try simp only [Act.put, List.setIfInBounds_toArray, List.set_cons_zero, List.set_cons_succ]
            refine wpAnyT_take (i := 13) (oi := ⟨_, _, _, _, _, _⟩) (v := ?_) rfl (by kernel_rfl) (by kernel_rfl) (by kernel_rfl) (fun _ _ _ h => h) (by kernel_rfl) (Or.inl ⟨by rfl, ?_⟩) (by assumption) ?_
            rotate_left
            · (intro wS hSw; (try dsimp only at hSw); go_simp <;> with_reducible rfl)
            try simp only [Act.put, List.setIfInBounds_toArray, List.set_cons_zero, List.set_cons_succ]
            refine wpAnyT_take (i := 16) (oi := ⟨_, _, _, _, _, _⟩) (v := ?_) rfl (by kernel_rfl) (by kernel_rfl) (by kernel_rfl) (fun _ _ _ h => h) (by kernel_rfl) (Or.inl ⟨by rfl, ?_⟩) (by assumption) ?_
            rotate_left
            · (intro wS hSw; (try dsimp only at hSw); go_simp <;> with_reducible rfl)
            try simp only [Act.put, List.setIfInBounds_toArray, List.set_cons_zero, List.set_cons_succ]
            refine wpAnyT_ready (rs := [14, 17]) (by kernel_rfl) (by simp) ?_
            refine (AllReadyT.cons (o := ⟨_, _, _, _, _, _⟩) rfl (fun K hK => ?_) (AllReadyT.cons (o := ⟨_, _, _, _, _, _⟩) rfl (fun K hK => ?_) AllReadyT.nil))
            · go_simp
              refine hK.out _ _ (by (try dsimp only); exact HS4.out) (fun hHeld => ?_)
              clear hK K
              try simp only [Act.put, List.setIfInBounds_toArray, List.set_cons_zero, List.set_cons_succ]
              refine wpAnyT_ready (rs := [17]) (by kernel_rfl) (by simp) ?_
              refine (AllReadyT.cons (o := ⟨_, _, _, _, _, _⟩) rfl (fun K hK => ?_) AllReadyT.nil)
              go_simp
              refine hK.out _ _ (by (try dsimp only); exact HS4.out) (fun hHeld => ?_)
              clear hK K
              try simp only [Act.put, List.setIfInBounds_toArray, List.set_cons_zero, List.set_cons_succ]
              refine wpAnyT_ready (rs := [18]) (by kernel_rfl) (by simp) ?_
              refine (AllReadyT.cons (o := ⟨_, _, _, _, _, _⟩) rfl (fun K hK => ?_) AllReadyT.nil)
              go_simp
              refine hK.out _ _ (by (try dsimp only); exact HS4.out) (fun hHeld => ?_)
              clear hK K
              try simp only [Act.put, List.setIfInBounds_toArray, List.set_cons_zero, List.set_cons_succ]
              refine wpAnyT_ready (rs := [19]) (by kernel_rfl) (by simp) ?_
              refine (AllReadyT.past (o := ⟨_, _, _, _, _, _⟩) rfl (by kernel_rfl) (fun K hK => ?_) AllReadyT.nil)
              refine lk_step_store_row rfl 53 (.tmp 16) (.tmp 81) rfl pb (lpCells peer me (sq : Nat) av 2 x.n) rfl rfl 53 x.p.cells HE4.out bg_infoP rfl (PR.one (p := ⟨peer, me, (sq : Nat), av, LR.light 2 x.n⟩) (light_sl _ _)) ?_
              refine hK.out _ _ ?_
              clear hK K
              try simp only [Act.put]
              refine wpAnyT_done (by kernel_rfl) ?_ _
              obtain ⟨w5, hw5⟩ : ∃ z, (w4.drew.setRow pb (lpCells peer me (sq : Nat) av 2 x.n)) = z := ⟨_, rfl⟩
              obtain ⟨p, hpd⟩ : ∃ p : PR, p = ⟨peer, me, (sq : Nat), av, LR.light 2 x.n⟩ := ⟨_, rfl⟩
              have HPB : Hid (w5.heap[pb]? = some (.cells p.cells 53)) := by rw [← hw5, hpd]; exact bg_row _ HE4.out
              have HP5 : Hid (PX W w5 [pb, ob] ga gr gb s t es nilV []) := HX3.out.out (Q := [pb]) (by rw [← hw5]; exact ((HX4.out.trans ((Below.refl _ w4).drew.mono HX4.out.size)).trans (bg_below _ (by rw [HPP.out]; exact Nat.le_refl _)))) (fun q hq => by simp at hq; subst hq; exact ⟨by rw [HPP.out]; exact Nat.le_refl _, bg_lt HPB.out⟩)
              have PO : Hid (SlAt W p.r.a p.r.l.ti ∧ SlAt W p.r.b p.r.l.li ∧ p.r.Sm ∧ p.s ≤ 9223372036854775807) := by rw [hpd]; exact ⟨SlAt.nil _, SlAt.nil _, light_sm _ _, by show ((sq : Nat) : Int) ≤ _; omega⟩
              rw [hw5]
              clear hw5 hpd HX4 HE4 HO4 hsqb hava hakb HPP HX3 HS4
              go_upto_region 15 with fail
              by_cases hp : s.takes p
              · by_cases hq0 : p.s = 0
                · skip
                  have hok := HI.out.ok (by omega)
                  have hou := HI.out.outs (by omega)
                  have hnu := HI.out.nums (by omega)
                  have hszp : (Try.prog.info? 53).map (·.size) = some p.cells.size := bg_infoP
                  have hszB : ∀ a b c : Int, (Try.prog.info? 53).map (·.size) = some (lpCells a b 0 c 0 0).size := fun a b c => bg_infoP
                  have honA : ∀ a b c : Int, (lpCells a b 0 c 0 0).all (·.oneCell') = true := fun a b c => PR.one (p := ⟨a, b, 0, c, LR.light 0 0⟩) (light_sl 0 0)
                  have hszA : ∀ a b c : Int, (Try.prog.info? 53).map (·.size) = some (lpCells a b 0 c 0 0).toList.length := fun a b c => bg_infoP
                  have C1 : Hid (Calls Try.prog 17 #[.pointer (some ⟨ga, 0, none⟩), .agg p.cells] w5 fun e w' => e = .returned (.tuple #[.slice none 0 0, .agg (lpCells 0 0 0 0 0 0), .bool true]) ∧ PX W w' [pb, ob] ga gr gb (s.known p.a) t es nilV [] ∧ KeepsB [pb, ob] w5 w') := HP5.out.gotAck hok.1 p hp hq0
                  have C2 : Hid (∀ w B, PX W w B ga gr gb (s.known p.a) t es nilV [] → Calls Try.prog 18 #[.pointer (some ⟨gr, 0, none⟩), .agg p.cells] w fun e w' => e = .returned (.tuple #[.slice none 0 0, .agg (lpCells 0 0 0 0 0 0), .bool true]) ∧ PX W w' B ga gr gb (s.known p.a) (t.known p.a) es nilV [] ∧ KeepsB B w w') := fun w B h => h.rgotAck hou.1 hou.2.1 p ((HI.out.rel.takes p).2 hp) hq0
                  have HPI := Lib.hid (HI.out.known hp.2.2.2.2).none
                  have C3 : Hid (∀ w B, PX W w B ga gr gb (s.known p.a) (t.known p.a) es nilV [] → Calls Try.prog 19 #[.pointer (some ⟨gb, 0, none⟩), .slice none 0 0] w fun e w' => e = .returned (.tuple #[]) ∧ PX W w' B ga gr gb (s.known p.a) (t.known p.a) (es ++ [(nilV, [])]) nilV [] ∧ KeepsB B w w') := fun w B h => h.book (by simp) (by have := HI.out.el; omega) (by simp)
                  have C4 : Hid (∀ w : World, Calls Try.prog 20 #[.slice none 0 0, .slice none 0 0] w fun e w' => e = .returned (.bool true) ∧ Below w.heap.size w w') := fun w => sameLs_any none none 0 0 0 [] [] w ⟨0, 0, by simp, by simp⟩ ⟨0, 0, by simp, by simp⟩ rfl rfl (by omega)
                  have C5 : Hid (∀ (w : World) (a b c : Int), Calls Try.prog 12 #[.agg (lpCells a b 0 c 0 0), .agg (lpCells a b 0 c 0 0)] w fun e w' => e = .returned (.bool true) ∧ Below w.heap.size w w') := fun w a b c => samePk_any ⟨a, b, 0, c, LR.light 0 0⟩ ⟨a, b, 0, c, LR.light 0 0⟩ w rfl rfl rfl rfl rfl (SlAt.nil _) (SlAt.nil _) (SlAt.nil _) (SlAt.nil _)
                  clear hok hou hnu
                  go_upto_region 17 with (first
                    | (with_reducible (show wpList _ _ _ (⟨some 84, Op.load _ (Operand.tmp 16), _, _, _, _⟩ :: _) _ _); go_must (refine wpList_load_row rfl 53 (.tmp 16) rfl pb rfl 53 p.cells (0, 0) _ HPB.out Try.underlying53 rfl hszp ?_))
                    | (go_at_call 17; (with_reducible refine (C1.out).mono ?_); rintro e w6 ⟨rfl, h6, k6⟩; have B6 := Lib.hid (k6.heap (q := pb) (by simp) HPB.out); have H6 := Lib.hid (h6.box (lpCells 0 0 0 0 0 0) (lpCells 0 0 0 0 0 0) 53); clear h6 k6)
                    | (with_reducible (show wpList _ _ _ (⟨none, Op.store _ (Operand.tmp 18) _, _, _, _, _⟩ :: _) _ _); go_must (refine wpList_store_row rfl 53 (.tmp 18) (.tmp 87) rfl w6.heap.size (lpCells 0 0 0 0 0 0) rfl rfl 53 (lpCells 0 0 0 0 0 0) (heap_alloc_new w6 _) (hszB _ _ _) rfl (honA _ _ _) ?_))
                    | (with_reducible (show wpList _ _ _ (⟨some 91, Op.load _ (Operand.tmp 16), _, _, _, _⟩ :: _) _ _); go_must (refine wpList_load_row rfl 53 (.tmp 16) rfl pb rfl 53 p.cells (0, 0) _ (bg_new_old B6.out) Try.underlying53 rfl hszp ?_))
                    | (go_at_call 18; (with_reducible refine (C2.out _ _ H6.out.1).mono ?_); rintro e w8 ⟨rfl, h8, k8⟩; have B8 := Lib.hid (k8.heap (q := w6.heap.size) (by simp) H6.out.2); have H8 := Lib.hid (h8.box (lpCells 0 0 0 0 0 0) (lpCells 0 0 0 0 0 0) 53); clear h8 k8)
                    | (with_reducible (show wpList _ _ _ (⟨none, Op.store _ (Operand.tmp 21) _, _, _, _, _⟩ :: _) _ _); go_must (refine wpList_store_row rfl 53 (.tmp 21) (.tmp 94) rfl w8.heap.size (lpCells 0 0 0 0 0 0) rfl rfl 53 (lpCells 0 0 0 0 0 0) (heap_alloc_new w8 _) (hszB _ _ _) rfl (honA _ _ _) ?_)))
                  obtain ⟨ab, hab⟩ : ∃ z, w6.heap.size = z := ⟨_, rfl⟩
                  obtain ⟨bb, hbb⟩ : ∃ z, w8.heap.size = z := ⟨_, rfl⟩
                  obtain ⟨w9, hw9⟩ : ∃ z, (w8.alloc (.cells (lpCells 0 0 0 0 0 0) 53)).setRow w8.heap.size (lpCells 0 0 0 0 0 0) = z := ⟨_, rfl⟩
                  have HA9 : Hid (w9.heap[ab]? = some (.cells (lpCells 0 0 0 0 0 0) 53)) := by rw [← hw9, ← hab]; exact bg_new_old B8.out
                  have HB9 : Hid (w9.heap[bb]? = some (.cells (lpCells 0 0 0 0 0 0) 53)) := by rw [← hw9, ← hbb]; exact H8.out.2
                  have HX9 : Hid (PX W w9 [bb, ab, pb, ob] ga gr gb (s.known p.a) (t.known p.a) es nilV []) := by rw [← hw9, ← hbb, ← hab]; exact H8.out.1
                  rw [hw9]
                  rw [hab, hbb]
                  clear hw9 hab hbb H6 H8 B6 B8 C1 C2 HPB HP5
                  go_upto_region 18 with (go_at_call 19; (with_reducible refine (C3.out _ _ HX9.out).mono ?_); rintro e wa ⟨rfl, ha, ka⟩; have HXA := Lib.hid ha; have HAA := Lib.hid (ka.heap (q := ab) (by simp) HA9.out); have HBA := Lib.hid (ka.heap (q := bb) (by simp) HB9.out); clear ha ka)
                  have HRG : Hid (∀ (w' : World) (q : Nat), w'.heap[q]? = some (.cells (lpCells 0 0 0 0 0 0) 53) → w'.rangeAt q 0 (lpCells 0 0 0 0 0 0).toList) := fun w' q e => box_range e
                  go_wp2_with (first
                    | (go_at_call 20; (with_reducible refine (C4.out _).mono ?_); rintro e wb ⟨rfl, bb1⟩; have HWB := Lib.hid bb1; have HAB := Lib.hid ((bb1.block _ (bg_lt HAA.out)).trans HAA.out); have HBB := Lib.hid ((bb1.block _ (bg_lt HBA.out)).trans HBA.out); clear bb1)
                    | (with_reducible (show wpList _ _ _ (⟨some 104, Op.load _ (Operand.tmp 18), _, _, _, _⟩ :: _) _ _); go_must (refine lk_load_midH (by kernel_rfl) 53 (.tmp 18) rfl ab 0 rfl ((lpCells 0 0 0 0 0 0)).toList _ (HRG.out _ _ HAB.out) Try.underlying53 rfl (hszA _ _ _) ?_))
                    | (with_reducible (show wpList _ _ _ (⟨some 105, Op.load _ (Operand.tmp 21), _, _, _, _⟩ :: _) _ _); go_must (refine lk_load_midH (by kernel_rfl) 53 (.tmp 21) rfl bb 0 rfl ((lpCells 0 0 0 0 0 0)).toList _ (HRG.out _ _ HBB.out) Try.underlying53 rfl (hszA _ _ _) ?_))
                    | (go_at_call 12; (with_reducible refine (C5.out _ _ _ _).mono ?_); rintro e wc ⟨rfl, bc1⟩; have HWC := Lib.hid (acc HWB.out bc1); clear bc1))
                  obtain ⟨wT, hwT9⟩ : ∃ z : World, z = wc := ⟨_, rfl⟩
                  obtain ⟨sT, hsT⟩ : ∃ z : LS, ((s.known p.a)) = z := ⟨_, rfl⟩
                  obtain ⟨tT, htT⟩ : ∃ z : RL, ((t.known p.a) : RL) = z := ⟨_, rfl⟩
                  obtain ⟨esT, heT⟩ : ∃ z, es ++ [(nilV, [])] = z := ⟨_, rfl⟩
                  have HT : Hid (PX W wT [bb, ab, pb, ob] ga gr gb sT tT esT nilV []) := by rw [hwT9, ← hsT, ← htT, ← heT]; exact HXA.out.below HWC.out
                  have HJ : Hid (PInv W me peer sT tT esT (i + 1)) := by rw [← hsT, ← htT, ← heT]; exact HPI.out
                  rw [← hwT9]
                  clear hwT9 hsT htT heT
                  clear C3 C4 C5 HRG HAA HBA HAB HBB HWB HWC HXA HX9 HA9 HB9 HPI
                  obtain ⟨-, ⟨A3, k3, c3⟩, c4, A5, k5, c5⟩ := HT.out.reads
                  have ho9 := HJ.out.rel.outLen
                  have hk9 := HJ.out.rel.keptLen
                  have hc9 := HJ.out.rel.came
                  have hb9 := (HJ.out.ok (by omega)).1
                  have hb91 := hb9.kept
                  have hb92 := hb9.waits
                  have hb93 := hb9.sent
                  have CW : Hid (∀ j, Calls Try.prog 21 #[.pointer (some ⟨ga, 0, none⟩)] (wT.drewN j) fun e w' => e = .returned (.int .i64 (sT.waits.length : Nat)) ∧ w' = wT.drewN j) := fun j => (HT.out.below (below_drewN (Below.refl _ _) j)).waits
                  have CC : Hid (∀ j, Calls Try.prog 22 #[.pointer (some ⟨ga, 0, none⟩)] (wT.drewN j) fun e w' => e = .returned (.int .i64 (sT.came : Nat)) ∧ w' = wT.drewN j) := fun j => (HT.out.below (below_drewN (Below.refl _ _) j)).came
                  have CR : Hid (∀ j, Calls Try.prog 23 #[.pointer (some ⟨ga, 0, none⟩)] (wT.drewN j) fun e w' => e = .returned (.bool (((sT.waits.length : Int) + (sT.kept.length : Int)) == 0)) ∧ w' = wT.drewN j) := fun j => by rw [← rest_eq]; exact (HT.out.below (below_drewN (Below.refl _ _) j)).rest
                  obtain ⟨mT, hmT⟩ : ∃ z, sT.waits.length = z := ⟨_, rfl⟩
                  obtain ⟨kT, hkT⟩ : ∃ z, sT.kept.length = z := ⟨_, rfl⟩
                  obtain ⟨cT9, hcT⟩ : ∃ z, sT.came = z := ⟨_, rfl⟩
                  rw [ho9] at c3
                  rw [hk9] at c5
                  rw [hc9] at c4
                  rw [hmT] at CW CR c3 hb92
                  rw [hkT] at CR c5 hb91
                  rw [hcT] at CC c4
                  have hwT : IntKind.i64.wrap ((mT : Int) + (kT : Int)) = (mT : Int) + (kT : Int) := by rw [IntKind.wrap_i64]; omega
                  clear ho9 hk9 hc9 hb9 hmT hkT hcT
                  go_upto_region 33 with fail
                  go_quiet (first
                    | (go_at_call 21; exact Calls.quiet_of_same (CW.out _))
                    | (go_at_call 22; exact Calls.quiet_of_same (CC.out _))
                    | (go_at_call 23; exact Calls.quiet_of_same (CR.out _)))
                  go_wp2_with fail
                  go_roundg (gk - 1)
                  case measure => omega
                  case rel => exact ⟨i + 1, sT, tT, esT, by omega, by omega, by go_num, (HT.out.below (below_drewN (Below.refl _ _) _)).less (by simp), HJ.out⟩
                · have hq1 : 0 < p.s := by have := hp.2.2.1; omega
                  have hok := HI.out.ok (by omega)
                  have hou := HI.out.outs (by omega)
                  have hnu := HI.out.nums (by omega)
                  have hszp : (Try.prog.info? 53).map (·.size) = some p.cells.size := bg_infoP
                  have hszB : ∀ a b c : Int, (Try.prog.info? 53).map (·.size) = some (lpCells a b 0 c 0 0).size := fun a b c => bg_infoP
                  have honA : ∀ a b c : Int, (lpCells a b 0 c 0 0).all (·.oneCell') = true := fun a b c => PR.one (p := ⟨a, b, 0, c, LR.light 0 0⟩) (light_sl 0 0)
                  have hszA : ∀ a b c : Int, (Try.prog.info? 53).map (·.size) = some (lpCells a b 0 c 0 0).toList.length := fun a b c => bg_infoP
                  obtain ⟨q, hq⟩ : ∃ q : Nat, p.s = (q : Nat) := ⟨p.s.toNat, by omega⟩
                  have hq0n : 0 < q := by omega
                  have hqm : q ≤ 9223372036854775807 := by have := PO.out.2.2.2; omega
                  have hpsl : p.r.sl := by
                    obtain ⟨⟨A, c, e1, _⟩, ⟨B, d, e2, _⟩, _⟩ := PO.out
                    exact ⟨⟨_, _, _, e1⟩, _, _, _, e2⟩
                  have C1 : Hid (Calls Try.prog 17 #[.pointer (some ⟨ga, 0, none⟩), .agg p.cells] w5 fun e w' => ∃ r1 ts c' ks' T c, AlikeP p.r r1 ∧ Follows (s.took p.a q r1).came (s.took p.a q r1).kept ts c' ks' ∧ e = .returned (.tuple #[.slice T ts.length c, .agg (lpCells s.me s.peer 0 (c' : Nat) 0 0), .bool true]) ∧ PX W w' [pb, ob] ga gr gb {(s.took p.a q r1) with came := c', kept := ks'} t es (.slice T ts.length c) ts ∧ KeepsB [pb, ob] w5 w') := HP5.out.gotNew hok.1 hok.2 p q hp hq hq0n hqm PO.out.1 PO.out.2.1 PO.out.2.2.1
                  have C2 : Hid (∀ w B s' tv ts, PX W w B ga gr gb s' t es tv ts → Calls Try.prog 18 #[.pointer (some ⟨gr, 0, none⟩), .agg p.cells] w fun e w' => ∃ T c rs c' ks', e = .returned (.tuple #[.slice T rs.length c, .agg (lpCells t.me t.peer 0 (c' : Nat) 0 0), .bool true]) ∧ RFol (t.took p).came (t.took p).kept rs c' ks' ∧ PX W w' ((Value.slice T rs.length c).ownBlock.toList ++ B) ga gr gb s' {t.took p with came := c', kept := ks'} es tv ts ∧ KeepsB B w w' ∧ w'.ownsRow w.heap.size 51 21 (.slice T rs.length c) rs.length (rowC LR.cells rs)) := fun w B s' tv ts h => h.rgotNew hou.1 hou.2.1 p ((HI.out.rel.takes p).2 hp) (by omega) PO.out.2.2.2 hnu.2.2.2.1 hnu.2.2.2.2 hpsl hnu.2.2.1
                  have HKEY : Hid (∀ r1 ts c' ks' rs d rks' (v : Value), AlikeP p.r r1 → Follows (s.took p.a q r1).came (s.took p.a q r1).kept ts c' ks' → RFol (t.took p).came (t.took p).kept rs d rks' → d = c' ∧ rs.map (·.l) = ts.map (·.l) ∧ (∀ r ∈ ts, r.Sm) ∧ ts.length ≤ 1000 ∧ (∀ r ∈ rs, SlAt W r.a r.l.ti ∧ SlAt W r.b r.l.li) ∧ PInv W me peer {(s.took p.a q r1) with came := c', kept := ks'} {t.took p with came := d, kept := rks'} (es ++ [(v, ts)]) (i + 1)) := fun r1 ts c' ks' rs d rks' v h1 h2 h3 => HI.out.got (by omega) hp.2.2.2.2 hq h1 PO.out.1 PO.out.2.1 PO.out.2.2.1 h2 h3 v
                  have C3 : Hid (∀ w B s' t' T n c ts, PX W w B ga gr gb s' t' es (.slice T n c) ts → (∀ r ∈ ts, r.Sm) → ts.length ≤ 1000 → Calls Try.prog 19 #[.pointer (some ⟨gb, 0, none⟩), .slice T n c] w fun e w' => e = .returned (.tuple #[]) ∧ PX W w' B ga gr gb s' t' (es ++ [(.slice T n c, ts)]) nilV [] ∧ KeepsB B w w') := fun w B s' t' T n c ts h h1 h2 => h.book h1 (by have := HI.out.el; omega) (by omega)
                  have C4 : Hid (∀ (w : World) (A B : Option Addr) (c d n : Nat) (ls ms : List LR), LsAt w A ls → LsAt w B ms → ms.map (·.l) = ls.map (·.l) → ls.length = n → n ≤ 1000 → Calls Try.prog 20 #[.slice A n c, .slice B n d] w fun e w' => e = .returned (.bool true) ∧ Below w.heap.size w w') := fun w A B c d n ls ms h1 h2 h3 h4 h5 => sameLs_any A B c d n ls ms w h1 h2 h3 h4 (by omega)
                  have C5 : Hid (∀ (w : World) (a b c : Int), Calls Try.prog 12 #[.agg (lpCells a b 0 c 0 0), .agg (lpCells a b 0 c 0 0)] w fun e w' => e = .returned (.bool true) ∧ Below w.heap.size w w') := fun w a b c => samePk_any ⟨a, b, 0, c, LR.light 0 0⟩ ⟨a, b, 0, c, LR.light 0 0⟩ w rfl rfl rfl rfl rfl (SlAt.nil _) (SlAt.nil _) (SlAt.nil _) (SlAt.nil _)
                  have HME : Hid (t.me = s.me ∧ t.peer = s.peer) := ⟨HI.out.rel.me, HI.out.rel.peer⟩
                  clear hok hou hnu hpsl hq
                  go_upto_region 16 with (first
                    | (with_reducible (show wpList _ _ _ (⟨some 84, Op.load _ (Operand.tmp 16), _, _, _, _⟩ :: _) _ _); go_must (refine wpList_load_row rfl 53 (.tmp 16) rfl pb rfl 53 p.cells (0, 0) _ HPB.out Try.underlying53 rfl hszp ?_))
                    | (go_at_call 17; (with_reducible refine (C1.out).mono ?_); rintro e w6 ⟨r1, ts, c', ks', T, cT, hal, hfo, rfl, h6, k6⟩; have HFO := Lib.hid (And.intro hal hfo); have B6 := Lib.hid (k6.heap (q := pb) (by simp) HPB.out); have H6 := Lib.hid (h6.box (lpCells 0 0 0 0 0 0) (lpCells s.me s.peer 0 (c' : Nat) 0 0) 53); clear h6 k6 hal hfo)
                    | (with_reducible (show wpList _ _ _ (⟨none, Op.store _ (Operand.tmp 18) _, _, _, _, _⟩ :: _) _ _); go_must (refine wpList_store_row rfl 53 (.tmp 18) (.tmp 87) rfl w6.heap.size (lpCells s.me s.peer 0 (c' : Nat) 0 0) rfl rfl 53 (lpCells 0 0 0 0 0 0) (heap_alloc_new w6 _) (hszB _ _ _) rfl (honA _ _ _) ?_)))
                  obtain ⟨ab, hab⟩ : ∃ z, w6.heap.size = z := ⟨_, rfl⟩
                  obtain ⟨w7, hw7⟩ : ∃ z, (w6.alloc (.cells (lpCells 0 0 0 0 0 0) 53)).setRow w6.heap.size (lpCells s.me s.peer 0 (c' : Nat) 0 0) = z := ⟨_, rfl⟩
                  have HA7 : Hid (w7.heap[ab]? = some (.cells (lpCells s.me s.peer 0 (c' : Nat) 0 0) 53)) := by rw [← hw7, ← hab]; exact H6.out.2
                  have HP7 : Hid (w7.heap[pb]? = some (.cells p.cells 53)) := by rw [← hw7]; exact bg_new_old B6.out
                  have HX7 : Hid (PX W w7 [ab, pb, ob] ga gr gb {(s.took p.a q r1) with came := c', kept := ks'} t es (.slice T ts.length cT) ts) := by rw [← hw7, ← hab]; exact H6.out.1
                  rw [hw7]
                  rw [hab]
                  clear hw7 hab H6 B6 C1 HPB HP5
                  go_upto_region 17 with (first
                    | (with_reducible (show wpList _ _ _ (⟨some 91, Op.load _ (Operand.tmp 16), _, _, _, _⟩ :: _) _ _); go_must (refine wpList_load_row rfl 53 (.tmp 16) rfl pb rfl 53 p.cells (0, 0) _ HP7.out Try.underlying53 rfl hszp ?_))
                    | (go_at_call 18; (with_reducible refine (C2.out _ _ _ _ _ HX7.out).mono ?_); rintro e w8 ⟨TB, cB, rs, d, rks', rfl, hrf, h8, k8, r8⟩; have HRF := Lib.hid hrf; have HA8 := Lib.hid (k8.heap (q := ab) (by simp) HA7.out); have HR8 := Lib.hid r8; have H8 := Lib.hid (h8.box (lpCells 0 0 0 0 0 0) (lpCells t.me t.peer 0 (d : Nat) 0 0) 53); clear h8 k8 r8 hrf)
                    | (with_reducible (show wpList _ _ _ (⟨none, Op.store _ (Operand.tmp 21) _, _, _, _, _⟩ :: _) _ _); go_must (refine wpList_store_row rfl 53 (.tmp 21) (.tmp 94) rfl w8.heap.size (lpCells t.me t.peer 0 (d : Nat) 0 0) rfl rfl 53 (lpCells 0 0 0 0 0 0) (heap_alloc_new w8 _) (hszB _ _ _) rfl (honA _ _ _) ?_)))
                  obtain ⟨hd1, hd2, hd3, hd4, hd5, hd6⟩ := HKEY.out r1 ts c' ks' rs d rks' (.slice T ts.length cT) HFO.out.1 HFO.out.2 HRF.out
                  obtain ⟨hm1, hm2⟩ := HME.out
                  subst hd1
                  rw [hm1, hm2] at H8 ⊢
                  have hrl : rs.length = ts.length := by have := congrArg List.length hd2; simpa using this
                  have hr8 := HR8.out
                  rw [hrl] at hr8 H8 ⊢
                  obtain ⟨n9, hn9⟩ : ∃ z, ts.length = z := ⟨_, rfl⟩
                  rw [hn9] at hr8 H8 hd6 ⊢
                  obtain ⟨bb, hbb⟩ : ∃ z, w8.heap.size = z := ⟨_, rfl⟩
                  obtain ⟨w9, hw9⟩ : ∃ z, (w8.alloc (.cells (lpCells 0 0 0 0 0 0) 53)).setRow w8.heap.size (lpCells s.me s.peer 0 (d : Nat) 0 0) = z := ⟨_, rfl⟩
                  have HA9 : Hid (w9.heap[ab]? = some (.cells (lpCells s.me s.peer 0 (d : Nat) 0 0) 53)) := by rw [← hw9]; exact bg_new_old HA8.out
                  have HB9 : Hid (w9.heap[bb]? = some (.cells (lpCells s.me s.peer 0 (d : Nat) 0 0) 53)) := by rw [← hw9, ← hbb]; exact H8.out.2
                  have HX9 : Hid (PX W w9 (bb :: ((Value.slice TB n9 cB).ownBlock.toList ++ [ab, pb, ob])) ga gr gb {(s.took p.a q r1) with came := d, kept := ks'} {t.took p with came := d, kept := rks'} es (.slice T n9 cT) ts) := by rw [← hw9, ← hbb]; exact H8.out.1
                  have HR9 : Hid (w9.ownsRow 0 51 21 (.slice TB n9 cB) n9 (rowC LR.cells rs)) := by rw [← hw9]; exact lk_base (lk_below hr8 (bg_new _ _ _ _)) (Nat.zero_le _)
                  have HD2 := Lib.hid hd2
                  have HD3 := Lib.hid hd3
                  have HD4 := Lib.hid hd4
                  have HD5 := Lib.hid hd5
                  have HPI := Lib.hid hd6
                  have HN9 := Lib.hid hn9
                  have hrl9 : rs.length = n9 := hrl.trans hn9
                  have HRL := Lib.hid hrl9
                  rw [hw9]
                  rw [hbb]
                  clear hw9 hbb H8 HR8 HA8 HA7 HP7 HX7 C2 HKEY HFO HRF HME hd2 hd3 hd4 hd5 hd6 hn9 hm1 hm2 hrl hr8 hrl9
                  obtain ⟨s9, hs9⟩ : ∃ z, ({(s.took p.a q r1) with came := d, kept := ks'} : LS) = z := ⟨_, rfl⟩
                  obtain ⟨t9, ht9⟩ : ∃ z, ({t.took p with came := d, kept := rks'} : RL) = z := ⟨_, rfl⟩
                  rw [hs9, ht9] at HX9 HPI
                  clear hs9 ht9
                  go_upto_region 18 with (go_at_call 19; (with_reducible refine (C3.out _ _ _ _ _ _ _ _ HX9.out HD3.out HD4.out).mono ?_); rintro e wa ⟨rfl, ha, ka⟩; have HXA := Lib.hid ha; have HAA := Lib.hid (ka.heap (q := ab) (by simp) HA9.out); have HBA := Lib.hid (ka.heap (q := bb) (by simp) HB9.out); have HRA9 := Lib.hid (ka.row HR9.out (fun z hz => by simp [hz])); clear ha ka)
                  have HLS : Hid (LsAt wa T ts) := HXA.out.last
                  have HLR : Hid (LsAt wa TB rs) := lsAt_row HRA9.out HRL.out (fun r hr => ⟨(HD5.out r hr).1.below HXA.out.base, (HD5.out r hr).2.below HXA.out.base⟩)
                  have HRG : Hid (∀ (w' : World) (q : Nat), w'.heap[q]? = some (.cells (lpCells s.me s.peer 0 (d : Nat) 0 0) 53) → w'.rangeAt q 0 (lpCells s.me s.peer 0 (d : Nat) 0 0).toList) := fun w' q e => box_range e
                  go_wp2_with (first
                    | (go_at_call 20; (with_reducible refine (C4.out _ _ _ _ _ _ _ _ HLS.out HLR.out HD2.out HN9.out (by rw [← HN9.out]; exact HD4.out)).mono ?_); rintro e wb ⟨rfl, bb1⟩; have HWB := Lib.hid bb1; have HAB := Lib.hid ((bb1.block _ (bg_lt HAA.out)).trans HAA.out); have HBB := Lib.hid ((bb1.block _ (bg_lt HBA.out)).trans HBA.out); clear bb1)
                    | (with_reducible (show wpList _ _ _ (⟨some 104, Op.load _ (Operand.tmp 18), _, _, _, _⟩ :: _) _ _); go_must (refine lk_load_midH (by kernel_rfl) 53 (.tmp 18) rfl ab 0 rfl ((lpCells s.me s.peer 0 (d : Nat) 0 0)).toList _ (HRG.out _ _ HAB.out) Try.underlying53 rfl (hszA _ _ _) ?_))
                    | (with_reducible (show wpList _ _ _ (⟨some 105, Op.load _ (Operand.tmp 21), _, _, _, _⟩ :: _) _ _); go_must (refine lk_load_midH (by kernel_rfl) 53 (.tmp 21) rfl bb 0 rfl ((lpCells s.me s.peer 0 (d : Nat) 0 0)).toList _ (HRG.out _ _ HBB.out) Try.underlying53 rfl (hszA _ _ _) ?_))
                    | (go_at_call 12; (with_reducible refine (C5.out _ _ _ _).mono ?_); rintro e wc ⟨rfl, bc1⟩; have HWC := Lib.hid (acc HWB.out bc1); clear bc1))
                  obtain ⟨wT, hwT9⟩ : ∃ z : World, z = wc := ⟨_, rfl⟩
                  obtain ⟨sT, hsT⟩ : ∃ z : LS, (s9) = z := ⟨_, rfl⟩
                  obtain ⟨tT, htT⟩ : ∃ z : RL, (t9 : RL) = z := ⟨_, rfl⟩
                  obtain ⟨esT, heT⟩ : ∃ z, es ++ [(.slice T n9 cT, ts)] = z := ⟨_, rfl⟩
                  have HT : Hid (PX W wT (bb :: ((Value.slice TB n9 cB).ownBlock.toList ++ [ab, pb, ob])) ga gr gb sT tT esT nilV []) := by rw [hwT9, ← hsT, ← htT, ← heT]; exact HXA.out.below HWC.out
                  have HJ : Hid (PInv W me peer sT tT esT (i + 1)) := by rw [← hsT, ← htT, ← heT]; exact HPI.out
                  rw [← hwT9]
                  clear hwT9 hsT htT heT
                  clear C3 C4 C5 HRG HAA HBA HAB HBB HWB HWC HXA HX9 HA9 HB9 HPI HR9 HRA9 HLS HLR HD2 HD3 HD4 HD5 HN9 HRL
                  obtain ⟨-, ⟨A3, k3, c3⟩, c4, A5, k5, c5⟩ := HT.out.reads
                  have ho9 := HJ.out.rel.outLen
                  have hk9 := HJ.out.rel.keptLen
                  have hc9 := HJ.out.rel.came
                  have hb9 := (HJ.out.ok (by omega)).1
                  have hb91 := hb9.kept
                  have hb92 := hb9.waits
                  have hb93 := hb9.sent
                  have CW : Hid (∀ j, Calls Try.prog 21 #[.pointer (some ⟨ga, 0, none⟩)] (wT.drewN j) fun e w' => e = .returned (.int .i64 (sT.waits.length : Nat)) ∧ w' = wT.drewN j) := fun j => (HT.out.below (below_drewN (Below.refl _ _) j)).waits
                  have CC : Hid (∀ j, Calls Try.prog 22 #[.pointer (some ⟨ga, 0, none⟩)] (wT.drewN j) fun e w' => e = .returned (.int .i64 (sT.came : Nat)) ∧ w' = wT.drewN j) := fun j => (HT.out.below (below_drewN (Below.refl _ _) j)).came
                  have CR : Hid (∀ j, Calls Try.prog 23 #[.pointer (some ⟨ga, 0, none⟩)] (wT.drewN j) fun e w' => e = .returned (.bool (((sT.waits.length : Int) + (sT.kept.length : Int)) == 0)) ∧ w' = wT.drewN j) := fun j => by rw [← rest_eq]; exact (HT.out.below (below_drewN (Below.refl _ _) j)).rest
                  obtain ⟨mT, hmT⟩ : ∃ z, sT.waits.length = z := ⟨_, rfl⟩
                  obtain ⟨kT, hkT⟩ : ∃ z, sT.kept.length = z := ⟨_, rfl⟩
                  obtain ⟨cT9, hcT⟩ : ∃ z, sT.came = z := ⟨_, rfl⟩
                  rw [ho9] at c3
                  rw [hk9] at c5
                  rw [hc9] at c4
                  rw [hmT] at CW CR c3 hb92
                  rw [hkT] at CR c5 hb91
                  rw [hcT] at CC c4
                  have hwT : IntKind.i64.wrap ((mT : Int) + (kT : Int)) = (mT : Int) + (kT : Int) := by rw [IntKind.wrap_i64]; omega
                  clear ho9 hk9 hc9 hb9 hmT hkT hcT
                  go_upto_region 33 with fail
                  go_quiet (first
                    | (go_at_call 21; exact Calls.quiet_of_same (CW.out _))
                    | (go_at_call 22; exact Calls.quiet_of_same (CC.out _))
                    | (go_at_call 23; exact Calls.quiet_of_same (CR.out _)))
                  go_wp2_with fail
                  go_roundg (gk - 1)
                  case measure => omega
                  case rel => exact ⟨i + 1, sT, tT, esT, by omega, by omega, by go_num, (HT.out.below (below_drewN (Below.refl _ _) _)).less (by simp), HJ.out⟩
              · skip
                have hok := HI.out.ok (by omega)
                have hou := HI.out.outs (by omega)
                have hnu := HI.out.nums (by omega)
                have hszp : (Try.prog.info? 53).map (·.size) = some p.cells.size := bg_infoP
                have hszB : ∀ a b c : Int, (Try.prog.info? 53).map (·.size) = some (lpCells a b 0 c 0 0).size := fun a b c => bg_infoP
                have honA : ∀ a b c : Int, (lpCells a b 0 c 0 0).all (·.oneCell') = true := fun a b c => PR.one (p := ⟨a, b, 0, c, LR.light 0 0⟩) (light_sl 0 0)
                have hszA : ∀ a b c : Int, (Try.prog.info? 53).map (·.size) = some (lpCells a b 0 c 0 0).toList.length := fun a b c => bg_infoP
                have C1 : Hid (Calls Try.prog 17 #[.pointer (some ⟨ga, 0, none⟩), .agg p.cells] w5 fun e w' => e = .returned (.tuple #[.slice none 0 0, .agg (lpCells 0 0 0 0 0 0), .bool false]) ∧ PX W w' [pb, ob] ga gr gb s t es nilV [] ∧ KeepsB [pb, ob] w5 w') := HP5.out.gotNot p hp
                have C2 : Hid (∀ w B, PX W w B ga gr gb s t es nilV [] → Calls Try.prog 18 #[.pointer (some ⟨gr, 0, none⟩), .agg p.cells] w fun e w' => e = .returned (.tuple #[.slice none 0 0, .agg (lpCells 0 0 0 0 0 0), .bool false]) ∧ PX W w' B ga gr gb s t es nilV [] ∧ KeepsB B w w') := fun w B h => h.rgotNot p (fun z => hp ((HI.out.rel.takes p).1 z))
                have HPI := Lib.hid HI.out.none
                have C3 : Hid (∀ w B, PX W w B ga gr gb s t es nilV [] → Calls Try.prog 19 #[.pointer (some ⟨gb, 0, none⟩), .slice none 0 0] w fun e w' => e = .returned (.tuple #[]) ∧ PX W w' B ga gr gb s t (es ++ [(nilV, [])]) nilV [] ∧ KeepsB B w w') := fun w B h => h.book (by simp) (by have := HI.out.el; omega) (by simp)
                have C4 : Hid (∀ w : World, Calls Try.prog 20 #[.slice none 0 0, .slice none 0 0] w fun e w' => e = .returned (.bool true) ∧ Below w.heap.size w w') := fun w => sameLs_any none none 0 0 0 [] [] w ⟨0, 0, by simp, by simp⟩ ⟨0, 0, by simp, by simp⟩ rfl rfl (by omega)
                have C5 : Hid (∀ (w : World) (a b c : Int), Calls Try.prog 12 #[.agg (lpCells a b 0 c 0 0), .agg (lpCells a b 0 c 0 0)] w fun e w' => e = .returned (.bool true) ∧ Below w.heap.size w w') := fun w a b c => samePk_any ⟨a, b, 0, c, LR.light 0 0⟩ ⟨a, b, 0, c, LR.light 0 0⟩ w rfl rfl rfl rfl rfl (SlAt.nil _) (SlAt.nil _) (SlAt.nil _) (SlAt.nil _)
                clear hok hou hnu
                go_upto_region 17 with (first
                  | (with_reducible (show wpList _ _ _ (⟨some 84, Op.load _ (Operand.tmp 16), _, _, _, _⟩ :: _) _ _); go_must (refine wpList_load_row rfl 53 (.tmp 16) rfl pb rfl 53 p.cells (0, 0) _ HPB.out Try.underlying53 rfl hszp ?_))
                  | (go_at_call 17; (with_reducible refine (C1.out).mono ?_); rintro e w6 ⟨rfl, h6, k6⟩; have B6 := Lib.hid (k6.heap (q := pb) (by simp) HPB.out); have H6 := Lib.hid (h6.box (lpCells 0 0 0 0 0 0) (lpCells 0 0 0 0 0 0) 53); clear h6 k6)
                  | (with_reducible (show wpList _ _ _ (⟨none, Op.store _ (Operand.tmp 18) _, _, _, _, _⟩ :: _) _ _); go_must (refine wpList_store_row rfl 53 (.tmp 18) (.tmp 87) rfl w6.heap.size (lpCells 0 0 0 0 0 0) rfl rfl 53 (lpCells 0 0 0 0 0 0) (heap_alloc_new w6 _) (hszB _ _ _) rfl (honA _ _ _) ?_))
                  | (with_reducible (show wpList _ _ _ (⟨some 91, Op.load _ (Operand.tmp 16), _, _, _, _⟩ :: _) _ _); go_must (refine wpList_load_row rfl 53 (.tmp 16) rfl pb rfl 53 p.cells (0, 0) _ (bg_new_old B6.out) Try.underlying53 rfl hszp ?_))
                  | (go_at_call 18; (with_reducible refine (C2.out _ _ H6.out.1).mono ?_); rintro e w8 ⟨rfl, h8, k8⟩; have B8 := Lib.hid (k8.heap (q := w6.heap.size) (by simp) H6.out.2); have H8 := Lib.hid (h8.box (lpCells 0 0 0 0 0 0) (lpCells 0 0 0 0 0 0) 53); clear h8 k8)
                  | (with_reducible (show wpList _ _ _ (⟨none, Op.store _ (Operand.tmp 21) _, _, _, _, _⟩ :: _) _ _); go_must (refine wpList_store_row rfl 53 (.tmp 21) (.tmp 94) rfl w8.heap.size (lpCells 0 0 0 0 0 0) rfl rfl 53 (lpCells 0 0 0 0 0 0) (heap_alloc_new w8 _) (hszB _ _ _) rfl (honA _ _ _) ?_)))
                obtain ⟨ab, hab⟩ : ∃ z, w6.heap.size = z := ⟨_, rfl⟩
                obtain ⟨bb, hbb⟩ : ∃ z, w8.heap.size = z := ⟨_, rfl⟩
                obtain ⟨w9, hw9⟩ : ∃ z, (w8.alloc (.cells (lpCells 0 0 0 0 0 0) 53)).setRow w8.heap.size (lpCells 0 0 0 0 0 0) = z := ⟨_, rfl⟩
                have HA9 : Hid (w9.heap[ab]? = some (.cells (lpCells 0 0 0 0 0 0) 53)) := by rw [← hw9, ← hab]; exact bg_new_old B8.out
                have HB9 : Hid (w9.heap[bb]? = some (.cells (lpCells 0 0 0 0 0 0) 53)) := by rw [← hw9, ← hbb]; exact H8.out.2
                have HX9 : Hid (PX W w9 [bb, ab, pb, ob] ga gr gb s t es nilV []) := by rw [← hw9, ← hbb, ← hab]; exact H8.out.1
                rw [hw9]
                rw [hab, hbb]
                clear hw9 hab hbb H6 H8 B6 B8 C1 C2 HPB HP5
                go_upto_region 18 with (go_at_call 19; (with_reducible refine (C3.out _ _ HX9.out).mono ?_); rintro e wa ⟨rfl, ha, ka⟩; have HXA := Lib.hid ha; have HAA := Lib.hid (ka.heap (q := ab) (by simp) HA9.out); have HBA := Lib.hid (ka.heap (q := bb) (by simp) HB9.out); clear ha ka)
                have HRG : Hid (∀ (w' : World) (q : Nat), w'.heap[q]? = some (.cells (lpCells 0 0 0 0 0 0) 53) → w'.rangeAt q 0 (lpCells 0 0 0 0 0 0).toList) := fun w' q e => box_range e
                go_wp2_with (first
                  | (go_at_call 20; (with_reducible refine (C4.out _).mono ?_); rintro e wb ⟨rfl, bb1⟩; have HWB := Lib.hid bb1; have HAB := Lib.hid ((bb1.block _ (bg_lt HAA.out)).trans HAA.out); have HBB := Lib.hid ((bb1.block _ (bg_lt HBA.out)).trans HBA.out); clear bb1)
                  | (with_reducible (show wpList _ _ _ (⟨some 104, Op.load _ (Operand.tmp 18), _, _, _, _⟩ :: _) _ _); go_must (refine lk_load_midH (by kernel_rfl) 53 (.tmp 18) rfl ab 0 rfl ((lpCells 0 0 0 0 0 0)).toList _ (HRG.out _ _ HAB.out) Try.underlying53 rfl (hszA _ _ _) ?_))
                  | (with_reducible (show wpList _ _ _ (⟨some 105, Op.load _ (Operand.tmp 21), _, _, _, _⟩ :: _) _ _); go_must (refine lk_load_midH (by kernel_rfl) 53 (.tmp 21) rfl bb 0 rfl ((lpCells 0 0 0 0 0 0)).toList _ (HRG.out _ _ HBB.out) Try.underlying53 rfl (hszA _ _ _) ?_))
                  | (go_at_call 12; (with_reducible refine (C5.out _ _ _ _).mono ?_); rintro e wc ⟨rfl, bc1⟩; have HWC := Lib.hid (acc HWB.out bc1); clear bc1))
                obtain ⟨wT, hwT9⟩ : ∃ z : World, z = wc := ⟨_, rfl⟩
                obtain ⟨sT, hsT⟩ : ∃ z : LS, (s) = z := ⟨_, rfl⟩
                obtain ⟨tT, htT⟩ : ∃ z : RL, (t : RL) = z := ⟨_, rfl⟩
                obtain ⟨esT, heT⟩ : ∃ z, es ++ [(nilV, [])] = z := ⟨_, rfl⟩
                have HT : Hid (PX W wT [bb, ab, pb, ob] ga gr gb sT tT esT nilV []) := by rw [hwT9, ← hsT, ← htT, ← heT]; exact HXA.out.below HWC.out
                have HJ : Hid (PInv W me peer sT tT esT (i + 1)) := by rw [← hsT, ← htT, ← heT]; exact HPI.out
                rw [← hwT9]
                clear hwT9 hsT htT heT
                clear C3 C4 C5 HRG HAA HBA HAB HBB HWB HWC HXA HX9 HA9 HB9 HPI
                obtain ⟨-, ⟨A3, k3, c3⟩, c4, A5, k5, c5⟩ := HT.out.reads
                have ho9 := HJ.out.rel.outLen
                have hk9 := HJ.out.rel.keptLen
                have hc9 := HJ.out.rel.came
                have hb9 := (HJ.out.ok (by omega)).1
                have hb91 := hb9.kept
                have hb92 := hb9.waits
                have hb93 := hb9.sent
                have CW : Hid (∀ j, Calls Try.prog 21 #[.pointer (some ⟨ga, 0, none⟩)] (wT.drewN j) fun e w' => e = .returned (.int .i64 (sT.waits.length : Nat)) ∧ w' = wT.drewN j) := fun j => (HT.out.below (below_drewN (Below.refl _ _) j)).waits
                have CC : Hid (∀ j, Calls Try.prog 22 #[.pointer (some ⟨ga, 0, none⟩)] (wT.drewN j) fun e w' => e = .returned (.int .i64 (sT.came : Nat)) ∧ w' = wT.drewN j) := fun j => (HT.out.below (below_drewN (Below.refl _ _) j)).came
                have CR : Hid (∀ j, Calls Try.prog 23 #[.pointer (some ⟨ga, 0, none⟩)] (wT.drewN j) fun e w' => e = .returned (.bool (((sT.waits.length : Int) + (sT.kept.length : Int)) == 0)) ∧ w' = wT.drewN j) := fun j => by rw [← rest_eq]; exact (HT.out.below (below_drewN (Below.refl _ _) j)).rest
                obtain ⟨mT, hmT⟩ : ∃ z, sT.waits.length = z := ⟨_, rfl⟩
                obtain ⟨kT, hkT⟩ : ∃ z, sT.kept.length = z := ⟨_, rfl⟩
                obtain ⟨cT9, hcT⟩ : ∃ z, sT.came = z := ⟨_, rfl⟩
                rw [ho9] at c3
                rw [hk9] at c5
                rw [hc9] at c4
                rw [hmT] at CW CR c3 hb92
                rw [hkT] at CR c5 hb91
                rw [hcT] at CC c4
                have hwT : IntKind.i64.wrap ((mT : Int) + (kT : Int)) = (mT : Int) + (kT : Int) := by rw [IntKind.wrap_i64]; omega
                clear ho9 hk9 hc9 hb9 hmT hkT hcT
                go_upto_region 33 with fail
                go_quiet (first
                  | (go_at_call 21; exact Calls.quiet_of_same (CW.out _))
                  | (go_at_call 22; exact Calls.quiet_of_same (CC.out _))
                  | (go_at_call 23; exact Calls.quiet_of_same (CR.out _)))
                go_wp2_with fail
                go_roundg (gk - 1)
                case measure => omega
                case rel => exact ⟨i + 1, sT, tT, esT, by omega, by omega, by go_num, (HT.out.below (below_drewN (Below.refl _ _) _)).less (by simp), HJ.out⟩

            · go_simp
              refine hK.out _ _ (by (try dsimp only); exact HS4.out) (fun hHeld => ?_)
              clear hK K
              try simp only [Act.put, List.setIfInBounds_toArray, List.set_cons_zero, List.set_cons_succ]
              refine wpAnyT_ready (rs := [14]) (by kernel_rfl) (by simp) ?_
              refine (AllReadyT.cons (o := ⟨_, _, _, _, _, _⟩) rfl (fun K hK => ?_) AllReadyT.nil)
              go_simp
              refine hK.out _ _ (by (try dsimp only); exact HS4.out) (fun hHeld => ?_)
              clear hK K
              try simp only [Act.put, List.setIfInBounds_toArray, List.set_cons_zero, List.set_cons_succ]
              refine wpAnyT_ready (rs := [18]) (by kernel_rfl) (by simp) ?_
              refine (AllReadyT.cons (o := ⟨_, _, _, _, _, _⟩) rfl (fun K hK => ?_) AllReadyT.nil)
              go_simp
              refine hK.out _ _ (by (try dsimp only); exact HS4.out) (fun hHeld => ?_)
              clear hK K
              try simp only [Act.put, List.setIfInBounds_toArray, List.set_cons_zero, List.set_cons_succ]
              refine wpAnyT_ready (rs := [19]) (by kernel_rfl) (by simp) ?_
              refine (AllReadyT.past (o := ⟨_, _, _, _, _, _⟩) rfl (by kernel_rfl) (fun K hK => ?_) AllReadyT.nil)
              refine lk_step_store_row rfl 53 (.tmp 16) (.tmp 81) rfl pb (lpCells peer me (sq : Nat) av 2 x.n) rfl rfl 53 x.p.cells HE4.out bg_infoP rfl (PR.one (p := ⟨peer, me, (sq : Nat), av, LR.light 2 x.n⟩) (light_sl _ _)) ?_
              refine hK.out _ _ ?_
              clear hK K
              try simp only [Act.put]
              refine wpAnyT_done (by kernel_rfl) ?_ _
              obtain ⟨w5, hw5⟩ : ∃ z, (w4.drew.setRow pb (lpCells peer me (sq : Nat) av 2 x.n)) = z := ⟨_, rfl⟩
              obtain ⟨p, hpd⟩ : ∃ p : PR, p = ⟨peer, me, (sq : Nat), av, LR.light 2 x.n⟩ := ⟨_, rfl⟩
              have HPB : Hid (w5.heap[pb]? = some (.cells p.cells 53)) := by rw [← hw5, hpd]; exact bg_row _ HE4.out
              have HP5 : Hid (PX W w5 [pb, ob] ga gr gb s t es nilV []) := HX3.out.out (Q := [pb]) (by rw [← hw5]; exact ((HX4.out.trans ((Below.refl _ w4).drew.mono HX4.out.size)).trans (bg_below _ (by rw [HPP.out]; exact Nat.le_refl _)))) (fun q hq => by simp at hq; subst hq; exact ⟨by rw [HPP.out]; exact Nat.le_refl _, bg_lt HPB.out⟩)
              have PO : Hid (SlAt W p.r.a p.r.l.ti ∧ SlAt W p.r.b p.r.l.li ∧ p.r.Sm ∧ p.s ≤ 9223372036854775807) := by rw [hpd]; exact ⟨SlAt.nil _, SlAt.nil _, light_sm _ _, by show ((sq : Nat) : Int) ≤ _; omega⟩
              rw [hw5]
              clear hw5 hpd HX4 HE4 HO4 hsqb hava hakb HPP HX3 HS4
              go_upto_region 15 with fail
              by_cases hp : s.takes p
              · by_cases hq0 : p.s = 0
                · skip
                  have hok := HI.out.ok (by omega)
                  have hou := HI.out.outs (by omega)
                  have hnu := HI.out.nums (by omega)
                  have hszp : (Try.prog.info? 53).map (·.size) = some p.cells.size := bg_infoP
                  have hszB : ∀ a b c : Int, (Try.prog.info? 53).map (·.size) = some (lpCells a b 0 c 0 0).size := fun a b c => bg_infoP
                  have honA : ∀ a b c : Int, (lpCells a b 0 c 0 0).all (·.oneCell') = true := fun a b c => PR.one (p := ⟨a, b, 0, c, LR.light 0 0⟩) (light_sl 0 0)
                  have hszA : ∀ a b c : Int, (Try.prog.info? 53).map (·.size) = some (lpCells a b 0 c 0 0).toList.length := fun a b c => bg_infoP
                  have C1 : Hid (Calls Try.prog 17 #[.pointer (some ⟨ga, 0, none⟩), .agg p.cells] w5 fun e w' => e = .returned (.tuple #[.slice none 0 0, .agg (lpCells 0 0 0 0 0 0), .bool true]) ∧ PX W w' [pb, ob] ga gr gb (s.known p.a) t es nilV [] ∧ KeepsB [pb, ob] w5 w') := HP5.out.gotAck hok.1 p hp hq0
                  have C2 : Hid (∀ w B, PX W w B ga gr gb (s.known p.a) t es nilV [] → Calls Try.prog 18 #[.pointer (some ⟨gr, 0, none⟩), .agg p.cells] w fun e w' => e = .returned (.tuple #[.slice none 0 0, .agg (lpCells 0 0 0 0 0 0), .bool true]) ∧ PX W w' B ga gr gb (s.known p.a) (t.known p.a) es nilV [] ∧ KeepsB B w w') := fun w B h => h.rgotAck hou.1 hou.2.1 p ((HI.out.rel.takes p).2 hp) hq0
                  have HPI := Lib.hid (HI.out.known hp.2.2.2.2).none
                  have C3 : Hid (∀ w B, PX W w B ga gr gb (s.known p.a) (t.known p.a) es nilV [] → Calls Try.prog 19 #[.pointer (some ⟨gb, 0, none⟩), .slice none 0 0] w fun e w' => e = .returned (.tuple #[]) ∧ PX W w' B ga gr gb (s.known p.a) (t.known p.a) (es ++ [(nilV, [])]) nilV [] ∧ KeepsB B w w') := fun w B h => h.book (by simp) (by have := HI.out.el; omega) (by simp)
                  have C4 : Hid (∀ w : World, Calls Try.prog 20 #[.slice none 0 0, .slice none 0 0] w fun e w' => e = .returned (.bool true) ∧ Below w.heap.size w w') := fun w => sameLs_any none none 0 0 0 [] [] w ⟨0, 0, by simp, by simp⟩ ⟨0, 0, by simp, by simp⟩ rfl rfl (by omega)
                  have C5 : Hid (∀ (w : World) (a b c : Int), Calls Try.prog 12 #[.agg (lpCells a b 0 c 0 0), .agg (lpCells a b 0 c 0 0)] w fun e w' => e = .returned (.bool true) ∧ Below w.heap.size w w') := fun w a b c => samePk_any ⟨a, b, 0, c, LR.light 0 0⟩ ⟨a, b, 0, c, LR.light 0 0⟩ w rfl rfl rfl rfl rfl (SlAt.nil _) (SlAt.nil _) (SlAt.nil _) (SlAt.nil _)
                  clear hok hou hnu
                  go_upto_region 17 with (first
                    | (with_reducible (show wpList _ _ _ (⟨some 84, Op.load _ (Operand.tmp 16), _, _, _, _⟩ :: _) _ _); go_must (refine wpList_load_row rfl 53 (.tmp 16) rfl pb rfl 53 p.cells (0, 0) _ HPB.out Try.underlying53 rfl hszp ?_))
                    | (go_at_call 17; (with_reducible refine (C1.out).mono ?_); rintro e w6 ⟨rfl, h6, k6⟩; have B6 := Lib.hid (k6.heap (q := pb) (by simp) HPB.out); have H6 := Lib.hid (h6.box (lpCells 0 0 0 0 0 0) (lpCells 0 0 0 0 0 0) 53); clear h6 k6)
                    | (with_reducible (show wpList _ _ _ (⟨none, Op.store _ (Operand.tmp 18) _, _, _, _, _⟩ :: _) _ _); go_must (refine wpList_store_row rfl 53 (.tmp 18) (.tmp 87) rfl w6.heap.size (lpCells 0 0 0 0 0 0) rfl rfl 53 (lpCells 0 0 0 0 0 0) (heap_alloc_new w6 _) (hszB _ _ _) rfl (honA _ _ _) ?_))
                    | (with_reducible (show wpList _ _ _ (⟨some 91, Op.load _ (Operand.tmp 16), _, _, _, _⟩ :: _) _ _); go_must (refine wpList_load_row rfl 53 (.tmp 16) rfl pb rfl 53 p.cells (0, 0) _ (bg_new_old B6.out) Try.underlying53 rfl hszp ?_))
                    | (go_at_call 18; (with_reducible refine (C2.out _ _ H6.out.1).mono ?_); rintro e w8 ⟨rfl, h8, k8⟩; have B8 := Lib.hid (k8.heap (q := w6.heap.size) (by simp) H6.out.2); have H8 := Lib.hid (h8.box (lpCells 0 0 0 0 0 0) (lpCells 0 0 0 0 0 0) 53); clear h8 k8)
                    | (with_reducible (show wpList _ _ _ (⟨none, Op.store _ (Operand.tmp 21) _, _, _, _, _⟩ :: _) _ _); go_must (refine wpList_store_row rfl 53 (.tmp 21) (.tmp 94) rfl w8.heap.size (lpCells 0 0 0 0 0 0) rfl rfl 53 (lpCells 0 0 0 0 0 0) (heap_alloc_new w8 _) (hszB _ _ _) rfl (honA _ _ _) ?_)))
                  obtain ⟨ab, hab⟩ : ∃ z, w6.heap.size = z := ⟨_, rfl⟩
                  obtain ⟨bb, hbb⟩ : ∃ z, w8.heap.size = z := ⟨_, rfl⟩
                  obtain ⟨w9, hw9⟩ : ∃ z, (w8.alloc (.cells (lpCells 0 0 0 0 0 0) 53)).setRow w8.heap.size (lpCells 0 0 0 0 0 0) = z := ⟨_, rfl⟩
                  have HA9 : Hid (w9.heap[ab]? = some (.cells (lpCells 0 0 0 0 0 0) 53)) := by rw [← hw9, ← hab]; exact bg_new_old B8.out
                  have HB9 : Hid (w9.heap[bb]? = some (.cells (lpCells 0 0 0 0 0 0) 53)) := by rw [← hw9, ← hbb]; exact H8.out.2
                  have HX9 : Hid (PX W w9 [bb, ab, pb, ob] ga gr gb (s.known p.a) (t.known p.a) es nilV []) := by rw [← hw9, ← hbb, ← hab]; exact H8.out.1
                  rw [hw9]
                  rw [hab, hbb]
                  clear hw9 hab hbb H6 H8 B6 B8 C1 C2 HPB HP5
                  go_upto_region 18 with (go_at_call 19; (with_reducible refine (C3.out _ _ HX9.out).mono ?_); rintro e wa ⟨rfl, ha, ka⟩; have HXA := Lib.hid ha; have HAA := Lib.hid (ka.heap (q := ab) (by simp) HA9.out); have HBA := Lib.hid (ka.heap (q := bb) (by simp) HB9.out); clear ha ka)
                  have HRG : Hid (∀ (w' : World) (q : Nat), w'.heap[q]? = some (.cells (lpCells 0 0 0 0 0 0) 53) → w'.rangeAt q 0 (lpCells 0 0 0 0 0 0).toList) := fun w' q e => box_range e
                  go_wp2_with (first
                    | (go_at_call 20; (with_reducible refine (C4.out _).mono ?_); rintro e wb ⟨rfl, bb1⟩; have HWB := Lib.hid bb1; have HAB := Lib.hid ((bb1.block _ (bg_lt HAA.out)).trans HAA.out); have HBB := Lib.hid ((bb1.block _ (bg_lt HBA.out)).trans HBA.out); clear bb1)
                    | (with_reducible (show wpList _ _ _ (⟨some 104, Op.load _ (Operand.tmp 18), _, _, _, _⟩ :: _) _ _); go_must (refine lk_load_midH (by kernel_rfl) 53 (.tmp 18) rfl ab 0 rfl ((lpCells 0 0 0 0 0 0)).toList _ (HRG.out _ _ HAB.out) Try.underlying53 rfl (hszA _ _ _) ?_))
                    | (with_reducible (show wpList _ _ _ (⟨some 105, Op.load _ (Operand.tmp 21), _, _, _, _⟩ :: _) _ _); go_must (refine lk_load_midH (by kernel_rfl) 53 (.tmp 21) rfl bb 0 rfl ((lpCells 0 0 0 0 0 0)).toList _ (HRG.out _ _ HBB.out) Try.underlying53 rfl (hszA _ _ _) ?_))
                    | (go_at_call 12; (with_reducible refine (C5.out _ _ _ _).mono ?_); rintro e wc ⟨rfl, bc1⟩; have HWC := Lib.hid (acc HWB.out bc1); clear bc1))
                  obtain ⟨wT, hwT9⟩ : ∃ z : World, z = wc := ⟨_, rfl⟩
                  obtain ⟨sT, hsT⟩ : ∃ z : LS, ((s.known p.a)) = z := ⟨_, rfl⟩
                  obtain ⟨tT, htT⟩ : ∃ z : RL, ((t.known p.a) : RL) = z := ⟨_, rfl⟩
                  obtain ⟨esT, heT⟩ : ∃ z, es ++ [(nilV, [])] = z := ⟨_, rfl⟩
                  have HT : Hid (PX W wT [bb, ab, pb, ob] ga gr gb sT tT esT nilV []) := by rw [hwT9, ← hsT, ← htT, ← heT]; exact HXA.out.below HWC.out
                  have HJ : Hid (PInv W me peer sT tT esT (i + 1)) := by rw [← hsT, ← htT, ← heT]; exact HPI.out
                  rw [← hwT9]
                  clear hwT9 hsT htT heT
                  clear C3 C4 C5 HRG HAA HBA HAB HBB HWB HWC HXA HX9 HA9 HB9 HPI
                  obtain ⟨-, ⟨A3, k3, c3⟩, c4, A5, k5, c5⟩ := HT.out.reads
                  have ho9 := HJ.out.rel.outLen
                  have hk9 := HJ.out.rel.keptLen
                  have hc9 := HJ.out.rel.came
                  have hb9 := (HJ.out.ok (by omega)).1
                  have hb91 := hb9.kept
                  have hb92 := hb9.waits
                  have hb93 := hb9.sent
                  have CW : Hid (∀ j, Calls Try.prog 21 #[.pointer (some ⟨ga, 0, none⟩)] (wT.drewN j) fun e w' => e = .returned (.int .i64 (sT.waits.length : Nat)) ∧ w' = wT.drewN j) := fun j => (HT.out.below (below_drewN (Below.refl _ _) j)).waits
                  have CC : Hid (∀ j, Calls Try.prog 22 #[.pointer (some ⟨ga, 0, none⟩)] (wT.drewN j) fun e w' => e = .returned (.int .i64 (sT.came : Nat)) ∧ w' = wT.drewN j) := fun j => (HT.out.below (below_drewN (Below.refl _ _) j)).came
                  have CR : Hid (∀ j, Calls Try.prog 23 #[.pointer (some ⟨ga, 0, none⟩)] (wT.drewN j) fun e w' => e = .returned (.bool (((sT.waits.length : Int) + (sT.kept.length : Int)) == 0)) ∧ w' = wT.drewN j) := fun j => by rw [← rest_eq]; exact (HT.out.below (below_drewN (Below.refl _ _) j)).rest
                  obtain ⟨mT, hmT⟩ : ∃ z, sT.waits.length = z := ⟨_, rfl⟩
                  obtain ⟨kT, hkT⟩ : ∃ z, sT.kept.length = z := ⟨_, rfl⟩
                  obtain ⟨cT9, hcT⟩ : ∃ z, sT.came = z := ⟨_, rfl⟩
                  rw [ho9] at c3
                  rw [hk9] at c5
                  rw [hc9] at c4
                  rw [hmT] at CW CR c3 hb92
                  rw [hkT] at CR c5 hb91
                  rw [hcT] at CC c4
                  have hwT : IntKind.i64.wrap ((mT : Int) + (kT : Int)) = (mT : Int) + (kT : Int) := by rw [IntKind.wrap_i64]; omega
                  clear ho9 hk9 hc9 hb9 hmT hkT hcT
                  go_upto_region 33 with fail
                  go_quiet (first
                    | (go_at_call 21; exact Calls.quiet_of_same (CW.out _))
                    | (go_at_call 22; exact Calls.quiet_of_same (CC.out _))
                    | (go_at_call 23; exact Calls.quiet_of_same (CR.out _)))
                  go_wp2_with fail
                  go_roundg (gk - 1)
                  case measure => omega
                  case rel => exact ⟨i + 1, sT, tT, esT, by omega, by omega, by go_num, (HT.out.below (below_drewN (Below.refl _ _) _)).less (by simp), HJ.out⟩
                · have hq1 : 0 < p.s := by have := hp.2.2.1; omega
                  have hok := HI.out.ok (by omega)
                  have hou := HI.out.outs (by omega)
                  have hnu := HI.out.nums (by omega)
                  have hszp : (Try.prog.info? 53).map (·.size) = some p.cells.size := bg_infoP
                  have hszB : ∀ a b c : Int, (Try.prog.info? 53).map (·.size) = some (lpCells a b 0 c 0 0).size := fun a b c => bg_infoP
                  have honA : ∀ a b c : Int, (lpCells a b 0 c 0 0).all (·.oneCell') = true := fun a b c => PR.one (p := ⟨a, b, 0, c, LR.light 0 0⟩) (light_sl 0 0)
                  have hszA : ∀ a b c : Int, (Try.prog.info? 53).map (·.size) = some (lpCells a b 0 c 0 0).toList.length := fun a b c => bg_infoP
                  obtain ⟨q, hq⟩ : ∃ q : Nat, p.s = (q : Nat) := ⟨p.s.toNat, by omega⟩
                  have hq0n : 0 < q := by omega
                  have hqm : q ≤ 9223372036854775807 := by have := PO.out.2.2.2; omega
                  have hpsl : p.r.sl := by
                    obtain ⟨⟨A, c, e1, _⟩, ⟨B, d, e2, _⟩, _⟩ := PO.out
                    exact ⟨⟨_, _, _, e1⟩, _, _, _, e2⟩
                  have C1 : Hid (Calls Try.prog 17 #[.pointer (some ⟨ga, 0, none⟩), .agg p.cells] w5 fun e w' => ∃ r1 ts c' ks' T c, AlikeP p.r r1 ∧ Follows (s.took p.a q r1).came (s.took p.a q r1).kept ts c' ks' ∧ e = .returned (.tuple #[.slice T ts.length c, .agg (lpCells s.me s.peer 0 (c' : Nat) 0 0), .bool true]) ∧ PX W w' [pb, ob] ga gr gb {(s.took p.a q r1) with came := c', kept := ks'} t es (.slice T ts.length c) ts ∧ KeepsB [pb, ob] w5 w') := HP5.out.gotNew hok.1 hok.2 p q hp hq hq0n hqm PO.out.1 PO.out.2.1 PO.out.2.2.1
                  have C2 : Hid (∀ w B s' tv ts, PX W w B ga gr gb s' t es tv ts → Calls Try.prog 18 #[.pointer (some ⟨gr, 0, none⟩), .agg p.cells] w fun e w' => ∃ T c rs c' ks', e = .returned (.tuple #[.slice T rs.length c, .agg (lpCells t.me t.peer 0 (c' : Nat) 0 0), .bool true]) ∧ RFol (t.took p).came (t.took p).kept rs c' ks' ∧ PX W w' ((Value.slice T rs.length c).ownBlock.toList ++ B) ga gr gb s' {t.took p with came := c', kept := ks'} es tv ts ∧ KeepsB B w w' ∧ w'.ownsRow w.heap.size 51 21 (.slice T rs.length c) rs.length (rowC LR.cells rs)) := fun w B s' tv ts h => h.rgotNew hou.1 hou.2.1 p ((HI.out.rel.takes p).2 hp) (by omega) PO.out.2.2.2 hnu.2.2.2.1 hnu.2.2.2.2 hpsl hnu.2.2.1
                  have HKEY : Hid (∀ r1 ts c' ks' rs d rks' (v : Value), AlikeP p.r r1 → Follows (s.took p.a q r1).came (s.took p.a q r1).kept ts c' ks' → RFol (t.took p).came (t.took p).kept rs d rks' → d = c' ∧ rs.map (·.l) = ts.map (·.l) ∧ (∀ r ∈ ts, r.Sm) ∧ ts.length ≤ 1000 ∧ (∀ r ∈ rs, SlAt W r.a r.l.ti ∧ SlAt W r.b r.l.li) ∧ PInv W me peer {(s.took p.a q r1) with came := c', kept := ks'} {t.took p with came := d, kept := rks'} (es ++ [(v, ts)]) (i + 1)) := fun r1 ts c' ks' rs d rks' v h1 h2 h3 => HI.out.got (by omega) hp.2.2.2.2 hq h1 PO.out.1 PO.out.2.1 PO.out.2.2.1 h2 h3 v
                  have C3 : Hid (∀ w B s' t' T n c ts, PX W w B ga gr gb s' t' es (.slice T n c) ts → (∀ r ∈ ts, r.Sm) → ts.length ≤ 1000 → Calls Try.prog 19 #[.pointer (some ⟨gb, 0, none⟩), .slice T n c] w fun e w' => e = .returned (.tuple #[]) ∧ PX W w' B ga gr gb s' t' (es ++ [(.slice T n c, ts)]) nilV [] ∧ KeepsB B w w') := fun w B s' t' T n c ts h h1 h2 => h.book h1 (by have := HI.out.el; omega) (by omega)
                  have C4 : Hid (∀ (w : World) (A B : Option Addr) (c d n : Nat) (ls ms : List LR), LsAt w A ls → LsAt w B ms → ms.map (·.l) = ls.map (·.l) → ls.length = n → n ≤ 1000 → Calls Try.prog 20 #[.slice A n c, .slice B n d] w fun e w' => e = .returned (.bool true) ∧ Below w.heap.size w w') := fun w A B c d n ls ms h1 h2 h3 h4 h5 => sameLs_any A B c d n ls ms w h1 h2 h3 h4 (by omega)
                  have C5 : Hid (∀ (w : World) (a b c : Int), Calls Try.prog 12 #[.agg (lpCells a b 0 c 0 0), .agg (lpCells a b 0 c 0 0)] w fun e w' => e = .returned (.bool true) ∧ Below w.heap.size w w') := fun w a b c => samePk_any ⟨a, b, 0, c, LR.light 0 0⟩ ⟨a, b, 0, c, LR.light 0 0⟩ w rfl rfl rfl rfl rfl (SlAt.nil _) (SlAt.nil _) (SlAt.nil _) (SlAt.nil _)
                  have HME : Hid (t.me = s.me ∧ t.peer = s.peer) := ⟨HI.out.rel.me, HI.out.rel.peer⟩
                  clear hok hou hnu hpsl hq
                  go_upto_region 16 with (first
                    | (with_reducible (show wpList _ _ _ (⟨some 84, Op.load _ (Operand.tmp 16), _, _, _, _⟩ :: _) _ _); go_must (refine wpList_load_row rfl 53 (.tmp 16) rfl pb rfl 53 p.cells (0, 0) _ HPB.out Try.underlying53 rfl hszp ?_))
                    | (go_at_call 17; (with_reducible refine (C1.out).mono ?_); rintro e w6 ⟨r1, ts, c', ks', T, cT, hal, hfo, rfl, h6, k6⟩; have HFO := Lib.hid (And.intro hal hfo); have B6 := Lib.hid (k6.heap (q := pb) (by simp) HPB.out); have H6 := Lib.hid (h6.box (lpCells 0 0 0 0 0 0) (lpCells s.me s.peer 0 (c' : Nat) 0 0) 53); clear h6 k6 hal hfo)
                    | (with_reducible (show wpList _ _ _ (⟨none, Op.store _ (Operand.tmp 18) _, _, _, _, _⟩ :: _) _ _); go_must (refine wpList_store_row rfl 53 (.tmp 18) (.tmp 87) rfl w6.heap.size (lpCells s.me s.peer 0 (c' : Nat) 0 0) rfl rfl 53 (lpCells 0 0 0 0 0 0) (heap_alloc_new w6 _) (hszB _ _ _) rfl (honA _ _ _) ?_)))
                  obtain ⟨ab, hab⟩ : ∃ z, w6.heap.size = z := ⟨_, rfl⟩
                  obtain ⟨w7, hw7⟩ : ∃ z, (w6.alloc (.cells (lpCells 0 0 0 0 0 0) 53)).setRow w6.heap.size (lpCells s.me s.peer 0 (c' : Nat) 0 0) = z := ⟨_, rfl⟩
                  have HA7 : Hid (w7.heap[ab]? = some (.cells (lpCells s.me s.peer 0 (c' : Nat) 0 0) 53)) := by rw [← hw7, ← hab]; exact H6.out.2
                  have HP7 : Hid (w7.heap[pb]? = some (.cells p.cells 53)) := by rw [← hw7]; exact bg_new_old B6.out
                  have HX7 : Hid (PX W w7 [ab, pb, ob] ga gr gb {(s.took p.a q r1) with came := c', kept := ks'} t es (.slice T ts.length cT) ts) := by rw [← hw7, ← hab]; exact H6.out.1
                  rw [hw7]
                  rw [hab]
                  clear hw7 hab H6 B6 C1 HPB HP5
                  go_upto_region 17 with (first
                    | (with_reducible (show wpList _ _ _ (⟨some 91, Op.load _ (Operand.tmp 16), _, _, _, _⟩ :: _) _ _); go_must (refine wpList_load_row rfl 53 (.tmp 16) rfl pb rfl 53 p.cells (0, 0) _ HP7.out Try.underlying53 rfl hszp ?_))
                    | (go_at_call 18; (with_reducible refine (C2.out _ _ _ _ _ HX7.out).mono ?_); rintro e w8 ⟨TB, cB, rs, d, rks', rfl, hrf, h8, k8, r8⟩; have HRF := Lib.hid hrf; have HA8 := Lib.hid (k8.heap (q := ab) (by simp) HA7.out); have HR8 := Lib.hid r8; have H8 := Lib.hid (h8.box (lpCells 0 0 0 0 0 0) (lpCells t.me t.peer 0 (d : Nat) 0 0) 53); clear h8 k8 r8 hrf)
                    | (with_reducible (show wpList _ _ _ (⟨none, Op.store _ (Operand.tmp 21) _, _, _, _, _⟩ :: _) _ _); go_must (refine wpList_store_row rfl 53 (.tmp 21) (.tmp 94) rfl w8.heap.size (lpCells t.me t.peer 0 (d : Nat) 0 0) rfl rfl 53 (lpCells 0 0 0 0 0 0) (heap_alloc_new w8 _) (hszB _ _ _) rfl (honA _ _ _) ?_)))
                  obtain ⟨hd1, hd2, hd3, hd4, hd5, hd6⟩ := HKEY.out r1 ts c' ks' rs d rks' (.slice T ts.length cT) HFO.out.1 HFO.out.2 HRF.out
                  obtain ⟨hm1, hm2⟩ := HME.out
                  subst hd1
                  rw [hm1, hm2] at H8 ⊢
                  have hrl : rs.length = ts.length := by have := congrArg List.length hd2; simpa using this
                  have hr8 := HR8.out
                  rw [hrl] at hr8 H8 ⊢
                  obtain ⟨n9, hn9⟩ : ∃ z, ts.length = z := ⟨_, rfl⟩
                  rw [hn9] at hr8 H8 hd6 ⊢
                  obtain ⟨bb, hbb⟩ : ∃ z, w8.heap.size = z := ⟨_, rfl⟩
                  obtain ⟨w9, hw9⟩ : ∃ z, (w8.alloc (.cells (lpCells 0 0 0 0 0 0) 53)).setRow w8.heap.size (lpCells s.me s.peer 0 (d : Nat) 0 0) = z := ⟨_, rfl⟩
                  have HA9 : Hid (w9.heap[ab]? = some (.cells (lpCells s.me s.peer 0 (d : Nat) 0 0) 53)) := by rw [← hw9]; exact bg_new_old HA8.out
                  have HB9 : Hid (w9.heap[bb]? = some (.cells (lpCells s.me s.peer 0 (d : Nat) 0 0) 53)) := by rw [← hw9, ← hbb]; exact H8.out.2
                  have HX9 : Hid (PX W w9 (bb :: ((Value.slice TB n9 cB).ownBlock.toList ++ [ab, pb, ob])) ga gr gb {(s.took p.a q r1) with came := d, kept := ks'} {t.took p with came := d, kept := rks'} es (.slice T n9 cT) ts) := by rw [← hw9, ← hbb]; exact H8.out.1
                  have HR9 : Hid (w9.ownsRow 0 51 21 (.slice TB n9 cB) n9 (rowC LR.cells rs)) := by rw [← hw9]; exact lk_base (lk_below hr8 (bg_new _ _ _ _)) (Nat.zero_le _)
                  have HD2 := Lib.hid hd2
                  have HD3 := Lib.hid hd3
                  have HD4 := Lib.hid hd4
                  have HD5 := Lib.hid hd5
                  have HPI := Lib.hid hd6
                  have HN9 := Lib.hid hn9
                  have hrl9 : rs.length = n9 := hrl.trans hn9
                  have HRL := Lib.hid hrl9
                  rw [hw9]
                  rw [hbb]
                  clear hw9 hbb H8 HR8 HA8 HA7 HP7 HX7 C2 HKEY HFO HRF HME hd2 hd3 hd4 hd5 hd6 hn9 hm1 hm2 hrl hr8 hrl9
                  obtain ⟨s9, hs9⟩ : ∃ z, ({(s.took p.a q r1) with came := d, kept := ks'} : LS) = z := ⟨_, rfl⟩
                  obtain ⟨t9, ht9⟩ : ∃ z, ({t.took p with came := d, kept := rks'} : RL) = z := ⟨_, rfl⟩
                  rw [hs9, ht9] at HX9 HPI
                  clear hs9 ht9
                  go_upto_region 18 with (go_at_call 19; (with_reducible refine (C3.out _ _ _ _ _ _ _ _ HX9.out HD3.out HD4.out).mono ?_); rintro e wa ⟨rfl, ha, ka⟩; have HXA := Lib.hid ha; have HAA := Lib.hid (ka.heap (q := ab) (by simp) HA9.out); have HBA := Lib.hid (ka.heap (q := bb) (by simp) HB9.out); have HRA9 := Lib.hid (ka.row HR9.out (fun z hz => by simp [hz])); clear ha ka)
                  have HLS : Hid (LsAt wa T ts) := HXA.out.last
                  have HLR : Hid (LsAt wa TB rs) := lsAt_row HRA9.out HRL.out (fun r hr => ⟨(HD5.out r hr).1.below HXA.out.base, (HD5.out r hr).2.below HXA.out.base⟩)
                  have HRG : Hid (∀ (w' : World) (q : Nat), w'.heap[q]? = some (.cells (lpCells s.me s.peer 0 (d : Nat) 0 0) 53) → w'.rangeAt q 0 (lpCells s.me s.peer 0 (d : Nat) 0 0).toList) := fun w' q e => box_range e
                  go_wp2_with (first
                    | (go_at_call 20; (with_reducible refine (C4.out _ _ _ _ _ _ _ _ HLS.out HLR.out HD2.out HN9.out (by rw [← HN9.out]; exact HD4.out)).mono ?_); rintro e wb ⟨rfl, bb1⟩; have HWB := Lib.hid bb1; have HAB := Lib.hid ((bb1.block _ (bg_lt HAA.out)).trans HAA.out); have HBB := Lib.hid ((bb1.block _ (bg_lt HBA.out)).trans HBA.out); clear bb1)
                    | (with_reducible (show wpList _ _ _ (⟨some 104, Op.load _ (Operand.tmp 18), _, _, _, _⟩ :: _) _ _); go_must (refine lk_load_midH (by kernel_rfl) 53 (.tmp 18) rfl ab 0 rfl ((lpCells s.me s.peer 0 (d : Nat) 0 0)).toList _ (HRG.out _ _ HAB.out) Try.underlying53 rfl (hszA _ _ _) ?_))
                    | (with_reducible (show wpList _ _ _ (⟨some 105, Op.load _ (Operand.tmp 21), _, _, _, _⟩ :: _) _ _); go_must (refine lk_load_midH (by kernel_rfl) 53 (.tmp 21) rfl bb 0 rfl ((lpCells s.me s.peer 0 (d : Nat) 0 0)).toList _ (HRG.out _ _ HBB.out) Try.underlying53 rfl (hszA _ _ _) ?_))
                    | (go_at_call 12; (with_reducible refine (C5.out _ _ _ _).mono ?_); rintro e wc ⟨rfl, bc1⟩; have HWC := Lib.hid (acc HWB.out bc1); clear bc1))
                  obtain ⟨wT, hwT9⟩ : ∃ z : World, z = wc := ⟨_, rfl⟩
                  obtain ⟨sT, hsT⟩ : ∃ z : LS, (s9) = z := ⟨_, rfl⟩
                  obtain ⟨tT, htT⟩ : ∃ z : RL, (t9 : RL) = z := ⟨_, rfl⟩
                  obtain ⟨esT, heT⟩ : ∃ z, es ++ [(.slice T n9 cT, ts)] = z := ⟨_, rfl⟩
                  have HT : Hid (PX W wT (bb :: ((Value.slice TB n9 cB).ownBlock.toList ++ [ab, pb, ob])) ga gr gb sT tT esT nilV []) := by rw [hwT9, ← hsT, ← htT, ← heT]; exact HXA.out.below HWC.out
                  have HJ : Hid (PInv W me peer sT tT esT (i + 1)) := by rw [← hsT, ← htT, ← heT]; exact HPI.out
                  rw [← hwT9]
                  clear hwT9 hsT htT heT
                  clear C3 C4 C5 HRG HAA HBA HAB HBB HWB HWC HXA HX9 HA9 HB9 HPI HR9 HRA9 HLS HLR HD2 HD3 HD4 HD5 HN9 HRL
                  obtain ⟨-, ⟨A3, k3, c3⟩, c4, A5, k5, c5⟩ := HT.out.reads
                  have ho9 := HJ.out.rel.outLen
                  have hk9 := HJ.out.rel.keptLen
                  have hc9 := HJ.out.rel.came
                  have hb9 := (HJ.out.ok (by omega)).1
                  have hb91 := hb9.kept
                  have hb92 := hb9.waits
                  have hb93 := hb9.sent
                  have CW : Hid (∀ j, Calls Try.prog 21 #[.pointer (some ⟨ga, 0, none⟩)] (wT.drewN j) fun e w' => e = .returned (.int .i64 (sT.waits.length : Nat)) ∧ w' = wT.drewN j) := fun j => (HT.out.below (below_drewN (Below.refl _ _) j)).waits
                  have CC : Hid (∀ j, Calls Try.prog 22 #[.pointer (some ⟨ga, 0, none⟩)] (wT.drewN j) fun e w' => e = .returned (.int .i64 (sT.came : Nat)) ∧ w' = wT.drewN j) := fun j => (HT.out.below (below_drewN (Below.refl _ _) j)).came
                  have CR : Hid (∀ j, Calls Try.prog 23 #[.pointer (some ⟨ga, 0, none⟩)] (wT.drewN j) fun e w' => e = .returned (.bool (((sT.waits.length : Int) + (sT.kept.length : Int)) == 0)) ∧ w' = wT.drewN j) := fun j => by rw [← rest_eq]; exact (HT.out.below (below_drewN (Below.refl _ _) j)).rest
                  obtain ⟨mT, hmT⟩ : ∃ z, sT.waits.length = z := ⟨_, rfl⟩
                  obtain ⟨kT, hkT⟩ : ∃ z, sT.kept.length = z := ⟨_, rfl⟩
                  obtain ⟨cT9, hcT⟩ : ∃ z, sT.came = z := ⟨_, rfl⟩
                  rw [ho9] at c3
                  rw [hk9] at c5
                  rw [hc9] at c4
                  rw [hmT] at CW CR c3 hb92
                  rw [hkT] at CR c5 hb91
                  rw [hcT] at CC c4
                  have hwT : IntKind.i64.wrap ((mT : Int) + (kT : Int)) = (mT : Int) + (kT : Int) := by rw [IntKind.wrap_i64]; omega
                  clear ho9 hk9 hc9 hb9 hmT hkT hcT
                  go_upto_region 33 with fail
                  go_quiet (first
                    | (go_at_call 21; exact Calls.quiet_of_same (CW.out _))
                    | (go_at_call 22; exact Calls.quiet_of_same (CC.out _))
                    | (go_at_call 23; exact Calls.quiet_of_same (CR.out _)))
                  go_wp2_with fail
                  go_roundg (gk - 1)
                  case measure => omega
                  case rel => exact ⟨i + 1, sT, tT, esT, by omega, by omega, by go_num, (HT.out.below (below_drewN (Below.refl _ _) _)).less (by simp), HJ.out⟩
              · skip
                have hok := HI.out.ok (by omega)
                have hou := HI.out.outs (by omega)
                have hnu := HI.out.nums (by omega)
                have hszp : (Try.prog.info? 53).map (·.size) = some p.cells.size := bg_infoP
                have hszB : ∀ a b c : Int, (Try.prog.info? 53).map (·.size) = some (lpCells a b 0 c 0 0).size := fun a b c => bg_infoP
                have honA : ∀ a b c : Int, (lpCells a b 0 c 0 0).all (·.oneCell') = true := fun a b c => PR.one (p := ⟨a, b, 0, c, LR.light 0 0⟩) (light_sl 0 0)
                have hszA : ∀ a b c : Int, (Try.prog.info? 53).map (·.size) = some (lpCells a b 0 c 0 0).toList.length := fun a b c => bg_infoP
                have C1 : Hid (Calls Try.prog 17 #[.pointer (some ⟨ga, 0, none⟩), .agg p.cells] w5 fun e w' => e = .returned (.tuple #[.slice none 0 0, .agg (lpCells 0 0 0 0 0 0), .bool false]) ∧ PX W w' [pb, ob] ga gr gb s t es nilV [] ∧ KeepsB [pb, ob] w5 w') := HP5.out.gotNot p hp
                have C2 : Hid (∀ w B, PX W w B ga gr gb s t es nilV [] → Calls Try.prog 18 #[.pointer (some ⟨gr, 0, none⟩), .agg p.cells] w fun e w' => e = .returned (.tuple #[.slice none 0 0, .agg (lpCells 0 0 0 0 0 0), .bool false]) ∧ PX W w' B ga gr gb s t es nilV [] ∧ KeepsB B w w') := fun w B h => h.rgotNot p (fun z => hp ((HI.out.rel.takes p).1 z))
                have HPI := Lib.hid HI.out.none
                have C3 : Hid (∀ w B, PX W w B ga gr gb s t es nilV [] → Calls Try.prog 19 #[.pointer (some ⟨gb, 0, none⟩), .slice none 0 0] w fun e w' => e = .returned (.tuple #[]) ∧ PX W w' B ga gr gb s t (es ++ [(nilV, [])]) nilV [] ∧ KeepsB B w w') := fun w B h => h.book (by simp) (by have := HI.out.el; omega) (by simp)
                have C4 : Hid (∀ w : World, Calls Try.prog 20 #[.slice none 0 0, .slice none 0 0] w fun e w' => e = .returned (.bool true) ∧ Below w.heap.size w w') := fun w => sameLs_any none none 0 0 0 [] [] w ⟨0, 0, by simp, by simp⟩ ⟨0, 0, by simp, by simp⟩ rfl rfl (by omega)
                have C5 : Hid (∀ (w : World) (a b c : Int), Calls Try.prog 12 #[.agg (lpCells a b 0 c 0 0), .agg (lpCells a b 0 c 0 0)] w fun e w' => e = .returned (.bool true) ∧ Below w.heap.size w w') := fun w a b c => samePk_any ⟨a, b, 0, c, LR.light 0 0⟩ ⟨a, b, 0, c, LR.light 0 0⟩ w rfl rfl rfl rfl rfl (SlAt.nil _) (SlAt.nil _) (SlAt.nil _) (SlAt.nil _)
                clear hok hou hnu
                go_upto_region 17 with (first
                  | (with_reducible (show wpList _ _ _ (⟨some 84, Op.load _ (Operand.tmp 16), _, _, _, _⟩ :: _) _ _); go_must (refine wpList_load_row rfl 53 (.tmp 16) rfl pb rfl 53 p.cells (0, 0) _ HPB.out Try.underlying53 rfl hszp ?_))
                  | (go_at_call 17; (with_reducible refine (C1.out).mono ?_); rintro e w6 ⟨rfl, h6, k6⟩; have B6 := Lib.hid (k6.heap (q := pb) (by simp) HPB.out); have H6 := Lib.hid (h6.box (lpCells 0 0 0 0 0 0) (lpCells 0 0 0 0 0 0) 53); clear h6 k6)
                  | (with_reducible (show wpList _ _ _ (⟨none, Op.store _ (Operand.tmp 18) _, _, _, _, _⟩ :: _) _ _); go_must (refine wpList_store_row rfl 53 (.tmp 18) (.tmp 87) rfl w6.heap.size (lpCells 0 0 0 0 0 0) rfl rfl 53 (lpCells 0 0 0 0 0 0) (heap_alloc_new w6 _) (hszB _ _ _) rfl (honA _ _ _) ?_))
                  | (with_reducible (show wpList _ _ _ (⟨some 91, Op.load _ (Operand.tmp 16), _, _, _, _⟩ :: _) _ _); go_must (refine wpList_load_row rfl 53 (.tmp 16) rfl pb rfl 53 p.cells (0, 0) _ (bg_new_old B6.out) Try.underlying53 rfl hszp ?_))
                  | (go_at_call 18; (with_reducible refine (C2.out _ _ H6.out.1).mono ?_); rintro e w8 ⟨rfl, h8, k8⟩; have B8 := Lib.hid (k8.heap (q := w6.heap.size) (by simp) H6.out.2); have H8 := Lib.hid (h8.box (lpCells 0 0 0 0 0 0) (lpCells 0 0 0 0 0 0) 53); clear h8 k8)
                  | (with_reducible (show wpList _ _ _ (⟨none, Op.store _ (Operand.tmp 21) _, _, _, _, _⟩ :: _) _ _); go_must (refine wpList_store_row rfl 53 (.tmp 21) (.tmp 94) rfl w8.heap.size (lpCells 0 0 0 0 0 0) rfl rfl 53 (lpCells 0 0 0 0 0 0) (heap_alloc_new w8 _) (hszB _ _ _) rfl (honA _ _ _) ?_)))
                obtain ⟨ab, hab⟩ : ∃ z, w6.heap.size = z := ⟨_, rfl⟩
                obtain ⟨bb, hbb⟩ : ∃ z, w8.heap.size = z := ⟨_, rfl⟩
                obtain ⟨w9, hw9⟩ : ∃ z, (w8.alloc (.cells (lpCells 0 0 0 0 0 0) 53)).setRow w8.heap.size (lpCells 0 0 0 0 0 0) = z := ⟨_, rfl⟩
                have HA9 : Hid (w9.heap[ab]? = some (.cells (lpCells 0 0 0 0 0 0) 53)) := by rw [← hw9, ← hab]; exact bg_new_old B8.out
                have HB9 : Hid (w9.heap[bb]? = some (.cells (lpCells 0 0 0 0 0 0) 53)) := by rw [← hw9, ← hbb]; exact H8.out.2
                have HX9 : Hid (PX W w9 [bb, ab, pb, ob] ga gr gb s t es nilV []) := by rw [← hw9, ← hbb, ← hab]; exact H8.out.1
                rw [hw9]
                rw [hab, hbb]
                clear hw9 hab hbb H6 H8 B6 B8 C1 C2 HPB HP5
                go_upto_region 18 with (go_at_call 19; (with_reducible refine (C3.out _ _ HX9.out).mono ?_); rintro e wa ⟨rfl, ha, ka⟩; have HXA := Lib.hid ha; have HAA := Lib.hid (ka.heap (q := ab) (by simp) HA9.out); have HBA := Lib.hid (ka.heap (q := bb) (by simp) HB9.out); clear ha ka)
                have HRG : Hid (∀ (w' : World) (q : Nat), w'.heap[q]? = some (.cells (lpCells 0 0 0 0 0 0) 53) → w'.rangeAt q 0 (lpCells 0 0 0 0 0 0).toList) := fun w' q e => box_range e
                go_wp2_with (first
                  | (go_at_call 20; (with_reducible refine (C4.out _).mono ?_); rintro e wb ⟨rfl, bb1⟩; have HWB := Lib.hid bb1; have HAB := Lib.hid ((bb1.block _ (bg_lt HAA.out)).trans HAA.out); have HBB := Lib.hid ((bb1.block _ (bg_lt HBA.out)).trans HBA.out); clear bb1)
                  | (with_reducible (show wpList _ _ _ (⟨some 104, Op.load _ (Operand.tmp 18), _, _, _, _⟩ :: _) _ _); go_must (refine lk_load_midH (by kernel_rfl) 53 (.tmp 18) rfl ab 0 rfl ((lpCells 0 0 0 0 0 0)).toList _ (HRG.out _ _ HAB.out) Try.underlying53 rfl (hszA _ _ _) ?_))
                  | (with_reducible (show wpList _ _ _ (⟨some 105, Op.load _ (Operand.tmp 21), _, _, _, _⟩ :: _) _ _); go_must (refine lk_load_midH (by kernel_rfl) 53 (.tmp 21) rfl bb 0 rfl ((lpCells 0 0 0 0 0 0)).toList _ (HRG.out _ _ HBB.out) Try.underlying53 rfl (hszA _ _ _) ?_))
                  | (go_at_call 12; (with_reducible refine (C5.out _ _ _ _).mono ?_); rintro e wc ⟨rfl, bc1⟩; have HWC := Lib.hid (acc HWB.out bc1); clear bc1))
                obtain ⟨wT, hwT9⟩ : ∃ z : World, z = wc := ⟨_, rfl⟩
                obtain ⟨sT, hsT⟩ : ∃ z : LS, (s) = z := ⟨_, rfl⟩
                obtain ⟨tT, htT⟩ : ∃ z : RL, (t : RL) = z := ⟨_, rfl⟩
                obtain ⟨esT, heT⟩ : ∃ z, es ++ [(nilV, [])] = z := ⟨_, rfl⟩
                have HT : Hid (PX W wT [bb, ab, pb, ob] ga gr gb sT tT esT nilV []) := by rw [hwT9, ← hsT, ← htT, ← heT]; exact HXA.out.below HWC.out
                have HJ : Hid (PInv W me peer sT tT esT (i + 1)) := by rw [← hsT, ← htT, ← heT]; exact HPI.out
                rw [← hwT9]
                clear hwT9 hsT htT heT
                clear C3 C4 C5 HRG HAA HBA HAB HBB HWB HWC HXA HX9 HA9 HB9 HPI
                obtain ⟨-, ⟨A3, k3, c3⟩, c4, A5, k5, c5⟩ := HT.out.reads
                have ho9 := HJ.out.rel.outLen
                have hk9 := HJ.out.rel.keptLen
                have hc9 := HJ.out.rel.came
                have hb9 := (HJ.out.ok (by omega)).1
                have hb91 := hb9.kept
                have hb92 := hb9.waits
                have hb93 := hb9.sent
                have CW : Hid (∀ j, Calls Try.prog 21 #[.pointer (some ⟨ga, 0, none⟩)] (wT.drewN j) fun e w' => e = .returned (.int .i64 (sT.waits.length : Nat)) ∧ w' = wT.drewN j) := fun j => (HT.out.below (below_drewN (Below.refl _ _) j)).waits
                have CC : Hid (∀ j, Calls Try.prog 22 #[.pointer (some ⟨ga, 0, none⟩)] (wT.drewN j) fun e w' => e = .returned (.int .i64 (sT.came : Nat)) ∧ w' = wT.drewN j) := fun j => (HT.out.below (below_drewN (Below.refl _ _) j)).came
                have CR : Hid (∀ j, Calls Try.prog 23 #[.pointer (some ⟨ga, 0, none⟩)] (wT.drewN j) fun e w' => e = .returned (.bool (((sT.waits.length : Int) + (sT.kept.length : Int)) == 0)) ∧ w' = wT.drewN j) := fun j => by rw [← rest_eq]; exact (HT.out.below (below_drewN (Below.refl _ _) j)).rest
                obtain ⟨mT, hmT⟩ : ∃ z, sT.waits.length = z := ⟨_, rfl⟩
                obtain ⟨kT, hkT⟩ : ∃ z, sT.kept.length = z := ⟨_, rfl⟩
                obtain ⟨cT9, hcT⟩ : ∃ z, sT.came = z := ⟨_, rfl⟩
                rw [ho9] at c3
                rw [hk9] at c5
                rw [hc9] at c4
                rw [hmT] at CW CR c3 hb92
                rw [hkT] at CR c5 hb91
                rw [hcT] at CC c4
                have hwT : IntKind.i64.wrap ((mT : Int) + (kT : Int)) = (mT : Int) + (kT : Int) := by rw [IntKind.wrap_i64]; omega
                clear ho9 hk9 hc9 hb9 hmT hkT hcT
                go_upto_region 33 with fail
                go_quiet (first
                  | (go_at_call 21; exact Calls.quiet_of_same (CW.out _))
                  | (go_at_call 22; exact Calls.quiet_of_same (CC.out _))
                  | (go_at_call 23; exact Calls.quiet_of_same (CR.out _)))
                go_wp2_with fail
                go_roundg (gk - 1)
                case measure => omega
                case rel => exact ⟨i + 1, sT, tT, esT, by omega, by omega, by go_num, (HT.out.below (below_drewN (Below.refl _ _) _)).less (by simp), HJ.out⟩
          · skip
            have dk4 : (x.k == 4) = false := by simpa using hk4
            obtain ⟨p, hpd⟩ : ∃ p : PR, x.p = p := ⟨_, rfl⟩
            obtain ⟨w5, hw5⟩ : ∃ z : World, z = w4 := ⟨_, rfl⟩
            have HPB : Hid (w5.heap[pb]? = some (.cells p.cells 53)) := by rw [hw5, ← hpd]; exact HE4.out
            have HP5 : Hid (PX W w5 [pb, ob] ga gr gb s t es nilV []) := HX3.out.out (Q := [pb]) (by rw [hw5]; exact HX4.out) (fun q hq => by simp at hq; subst hq; exact ⟨by rw [HPP.out]; exact Nat.le_refl _, bg_lt HPB.out⟩)
            have PO : Hid (SlAt W p.r.a p.r.l.ti ∧ SlAt W p.r.b p.r.l.li ∧ p.r.Sm ∧ p.s ≤ 9223372036854775807) := by rw [← hpd]; exact ⟨HXO.out.sa, HXO.out.sb, HXO.out.sm, by have := HXO.out.s; unfold i64B at this; omega⟩
            rw [← hw5] at y0 ⊢
            clear hw5 hpd HX4 HE4 HO4 HPP HX3
            go_upto_region 15 with fail
            clear y0
            by_cases hp : s.takes p
            · by_cases hq0 : p.s = 0
              · skip
                have hok := HI.out.ok (by omega)
                have hou := HI.out.outs (by omega)
                have hnu := HI.out.nums (by omega)
                have hszp : (Try.prog.info? 53).map (·.size) = some p.cells.size := bg_infoP
                have hszB : ∀ a b c : Int, (Try.prog.info? 53).map (·.size) = some (lpCells a b 0 c 0 0).size := fun a b c => bg_infoP
                have honA : ∀ a b c : Int, (lpCells a b 0 c 0 0).all (·.oneCell') = true := fun a b c => PR.one (p := ⟨a, b, 0, c, LR.light 0 0⟩) (light_sl 0 0)
                have hszA : ∀ a b c : Int, (Try.prog.info? 53).map (·.size) = some (lpCells a b 0 c 0 0).toList.length := fun a b c => bg_infoP
                have C1 : Hid (Calls Try.prog 17 #[.pointer (some ⟨ga, 0, none⟩), .agg p.cells] w5 fun e w' => e = .returned (.tuple #[.slice none 0 0, .agg (lpCells 0 0 0 0 0 0), .bool true]) ∧ PX W w' [pb, ob] ga gr gb (s.known p.a) t es nilV [] ∧ KeepsB [pb, ob] w5 w') := HP5.out.gotAck hok.1 p hp hq0
                have C2 : Hid (∀ w B, PX W w B ga gr gb (s.known p.a) t es nilV [] → Calls Try.prog 18 #[.pointer (some ⟨gr, 0, none⟩), .agg p.cells] w fun e w' => e = .returned (.tuple #[.slice none 0 0, .agg (lpCells 0 0 0 0 0 0), .bool true]) ∧ PX W w' B ga gr gb (s.known p.a) (t.known p.a) es nilV [] ∧ KeepsB B w w') := fun w B h => h.rgotAck hou.1 hou.2.1 p ((HI.out.rel.takes p).2 hp) hq0
                have HPI := Lib.hid (HI.out.known hp.2.2.2.2).none
                have C3 : Hid (∀ w B, PX W w B ga gr gb (s.known p.a) (t.known p.a) es nilV [] → Calls Try.prog 19 #[.pointer (some ⟨gb, 0, none⟩), .slice none 0 0] w fun e w' => e = .returned (.tuple #[]) ∧ PX W w' B ga gr gb (s.known p.a) (t.known p.a) (es ++ [(nilV, [])]) nilV [] ∧ KeepsB B w w') := fun w B h => h.book (by simp) (by have := HI.out.el; omega) (by simp)
                have C4 : Hid (∀ w : World, Calls Try.prog 20 #[.slice none 0 0, .slice none 0 0] w fun e w' => e = .returned (.bool true) ∧ Below w.heap.size w w') := fun w => sameLs_any none none 0 0 0 [] [] w ⟨0, 0, by simp, by simp⟩ ⟨0, 0, by simp, by simp⟩ rfl rfl (by omega)
                have C5 : Hid (∀ (w : World) (a b c : Int), Calls Try.prog 12 #[.agg (lpCells a b 0 c 0 0), .agg (lpCells a b 0 c 0 0)] w fun e w' => e = .returned (.bool true) ∧ Below w.heap.size w w') := fun w a b c => samePk_any ⟨a, b, 0, c, LR.light 0 0⟩ ⟨a, b, 0, c, LR.light 0 0⟩ w rfl rfl rfl rfl rfl (SlAt.nil _) (SlAt.nil _) (SlAt.nil _) (SlAt.nil _)
                clear hok hou hnu
                go_upto_region 17 with (first
                  | (with_reducible (show wpList _ _ _ (⟨some 84, Op.load _ (Operand.tmp 16), _, _, _, _⟩ :: _) _ _); go_must (refine wpList_load_row rfl 53 (.tmp 16) rfl pb rfl 53 p.cells (0, 0) _ HPB.out Try.underlying53 rfl hszp ?_))
                  | (go_at_call 17; (with_reducible refine (C1.out).mono ?_); rintro e w6 ⟨rfl, h6, k6⟩; have B6 := Lib.hid (k6.heap (q := pb) (by simp) HPB.out); have H6 := Lib.hid (h6.box (lpCells 0 0 0 0 0 0) (lpCells 0 0 0 0 0 0) 53); clear h6 k6)
                  | (with_reducible (show wpList _ _ _ (⟨none, Op.store _ (Operand.tmp 18) _, _, _, _, _⟩ :: _) _ _); go_must (refine wpList_store_row rfl 53 (.tmp 18) (.tmp 87) rfl w6.heap.size (lpCells 0 0 0 0 0 0) rfl rfl 53 (lpCells 0 0 0 0 0 0) (heap_alloc_new w6 _) (hszB _ _ _) rfl (honA _ _ _) ?_))
                  | (with_reducible (show wpList _ _ _ (⟨some 91, Op.load _ (Operand.tmp 16), _, _, _, _⟩ :: _) _ _); go_must (refine wpList_load_row rfl 53 (.tmp 16) rfl pb rfl 53 p.cells (0, 0) _ (bg_new_old B6.out) Try.underlying53 rfl hszp ?_))
                  | (go_at_call 18; (with_reducible refine (C2.out _ _ H6.out.1).mono ?_); rintro e w8 ⟨rfl, h8, k8⟩; have B8 := Lib.hid (k8.heap (q := w6.heap.size) (by simp) H6.out.2); have H8 := Lib.hid (h8.box (lpCells 0 0 0 0 0 0) (lpCells 0 0 0 0 0 0) 53); clear h8 k8)
                  | (with_reducible (show wpList _ _ _ (⟨none, Op.store _ (Operand.tmp 21) _, _, _, _, _⟩ :: _) _ _); go_must (refine wpList_store_row rfl 53 (.tmp 21) (.tmp 94) rfl w8.heap.size (lpCells 0 0 0 0 0 0) rfl rfl 53 (lpCells 0 0 0 0 0 0) (heap_alloc_new w8 _) (hszB _ _ _) rfl (honA _ _ _) ?_)))
                obtain ⟨ab, hab⟩ : ∃ z, w6.heap.size = z := ⟨_, rfl⟩
                obtain ⟨bb, hbb⟩ : ∃ z, w8.heap.size = z := ⟨_, rfl⟩
                obtain ⟨w9, hw9⟩ : ∃ z, (w8.alloc (.cells (lpCells 0 0 0 0 0 0) 53)).setRow w8.heap.size (lpCells 0 0 0 0 0 0) = z := ⟨_, rfl⟩
                have HA9 : Hid (w9.heap[ab]? = some (.cells (lpCells 0 0 0 0 0 0) 53)) := by rw [← hw9, ← hab]; exact bg_new_old B8.out
                have HB9 : Hid (w9.heap[bb]? = some (.cells (lpCells 0 0 0 0 0 0) 53)) := by rw [← hw9, ← hbb]; exact H8.out.2
                have HX9 : Hid (PX W w9 [bb, ab, pb, ob] ga gr gb (s.known p.a) (t.known p.a) es nilV []) := by rw [← hw9, ← hbb, ← hab]; exact H8.out.1
                rw [hw9]
                rw [hab, hbb]
                clear hw9 hab hbb H6 H8 B6 B8 C1 C2 HPB HP5
                go_upto_region 18 with (go_at_call 19; (with_reducible refine (C3.out _ _ HX9.out).mono ?_); rintro e wa ⟨rfl, ha, ka⟩; have HXA := Lib.hid ha; have HAA := Lib.hid (ka.heap (q := ab) (by simp) HA9.out); have HBA := Lib.hid (ka.heap (q := bb) (by simp) HB9.out); clear ha ka)
                have HRG : Hid (∀ (w' : World) (q : Nat), w'.heap[q]? = some (.cells (lpCells 0 0 0 0 0 0) 53) → w'.rangeAt q 0 (lpCells 0 0 0 0 0 0).toList) := fun w' q e => box_range e
                go_wp2_with (first
                  | (go_at_call 20; (with_reducible refine (C4.out _).mono ?_); rintro e wb ⟨rfl, bb1⟩; have HWB := Lib.hid bb1; have HAB := Lib.hid ((bb1.block _ (bg_lt HAA.out)).trans HAA.out); have HBB := Lib.hid ((bb1.block _ (bg_lt HBA.out)).trans HBA.out); clear bb1)
                  | (with_reducible (show wpList _ _ _ (⟨some 104, Op.load _ (Operand.tmp 18), _, _, _, _⟩ :: _) _ _); go_must (refine lk_load_midH (by kernel_rfl) 53 (.tmp 18) rfl ab 0 rfl ((lpCells 0 0 0 0 0 0)).toList _ (HRG.out _ _ HAB.out) Try.underlying53 rfl (hszA _ _ _) ?_))
                  | (with_reducible (show wpList _ _ _ (⟨some 105, Op.load _ (Operand.tmp 21), _, _, _, _⟩ :: _) _ _); go_must (refine lk_load_midH (by kernel_rfl) 53 (.tmp 21) rfl bb 0 rfl ((lpCells 0 0 0 0 0 0)).toList _ (HRG.out _ _ HBB.out) Try.underlying53 rfl (hszA _ _ _) ?_))
                  | (go_at_call 12; (with_reducible refine (C5.out _ _ _ _).mono ?_); rintro e wc ⟨rfl, bc1⟩; have HWC := Lib.hid (acc HWB.out bc1); clear bc1))
                obtain ⟨wT, hwT9⟩ : ∃ z : World, z = wc := ⟨_, rfl⟩
                obtain ⟨sT, hsT⟩ : ∃ z : LS, ((s.known p.a)) = z := ⟨_, rfl⟩
                obtain ⟨tT, htT⟩ : ∃ z : RL, ((t.known p.a) : RL) = z := ⟨_, rfl⟩
                obtain ⟨esT, heT⟩ : ∃ z, es ++ [(nilV, [])] = z := ⟨_, rfl⟩
                have HT : Hid (PX W wT [bb, ab, pb, ob] ga gr gb sT tT esT nilV []) := by rw [hwT9, ← hsT, ← htT, ← heT]; exact HXA.out.below HWC.out
                have HJ : Hid (PInv W me peer sT tT esT (i + 1)) := by rw [← hsT, ← htT, ← heT]; exact HPI.out
                rw [← hwT9]
                clear hwT9 hsT htT heT
                clear C3 C4 C5 HRG HAA HBA HAB HBB HWB HWC HXA HX9 HA9 HB9 HPI
                obtain ⟨-, ⟨A3, k3, c3⟩, c4, A5, k5, c5⟩ := HT.out.reads
                have ho9 := HJ.out.rel.outLen
                have hk9 := HJ.out.rel.keptLen
                have hc9 := HJ.out.rel.came
                have hb9 := (HJ.out.ok (by omega)).1
                have hb91 := hb9.kept
                have hb92 := hb9.waits
                have hb93 := hb9.sent
                have CW : Hid (∀ j, Calls Try.prog 21 #[.pointer (some ⟨ga, 0, none⟩)] (wT.drewN j) fun e w' => e = .returned (.int .i64 (sT.waits.length : Nat)) ∧ w' = wT.drewN j) := fun j => (HT.out.below (below_drewN (Below.refl _ _) j)).waits
                have CC : Hid (∀ j, Calls Try.prog 22 #[.pointer (some ⟨ga, 0, none⟩)] (wT.drewN j) fun e w' => e = .returned (.int .i64 (sT.came : Nat)) ∧ w' = wT.drewN j) := fun j => (HT.out.below (below_drewN (Below.refl _ _) j)).came
                have CR : Hid (∀ j, Calls Try.prog 23 #[.pointer (some ⟨ga, 0, none⟩)] (wT.drewN j) fun e w' => e = .returned (.bool (((sT.waits.length : Int) + (sT.kept.length : Int)) == 0)) ∧ w' = wT.drewN j) := fun j => by rw [← rest_eq]; exact (HT.out.below (below_drewN (Below.refl _ _) j)).rest
                obtain ⟨mT, hmT⟩ : ∃ z, sT.waits.length = z := ⟨_, rfl⟩
                obtain ⟨kT, hkT⟩ : ∃ z, sT.kept.length = z := ⟨_, rfl⟩
                obtain ⟨cT9, hcT⟩ : ∃ z, sT.came = z := ⟨_, rfl⟩
                rw [ho9] at c3
                rw [hk9] at c5
                rw [hc9] at c4
                rw [hmT] at CW CR c3 hb92
                rw [hkT] at CR c5 hb91
                rw [hcT] at CC c4
                have hwT : IntKind.i64.wrap ((mT : Int) + (kT : Int)) = (mT : Int) + (kT : Int) := by rw [IntKind.wrap_i64]; omega
                clear ho9 hk9 hc9 hb9 hmT hkT hcT
                go_upto_region 33 with fail
                go_quiet (first
                  | (go_at_call 21; exact Calls.quiet_of_same (CW.out _))
                  | (go_at_call 22; exact Calls.quiet_of_same (CC.out _))
                  | (go_at_call 23; exact Calls.quiet_of_same (CR.out _)))
                go_wp2_with fail
                go_roundg (gk - 1)
                case measure => omega
                case rel => exact ⟨i + 1, sT, tT, esT, by omega, by omega, by go_num, (HT.out.below (below_drewN (Below.refl _ _) _)).less (by simp), HJ.out⟩
              · have hq1 : 0 < p.s := by have := hp.2.2.1; omega
                have hok := HI.out.ok (by omega)
                have hou := HI.out.outs (by omega)
                have hnu := HI.out.nums (by omega)
                have hszp : (Try.prog.info? 53).map (·.size) = some p.cells.size := bg_infoP
                have hszB : ∀ a b c : Int, (Try.prog.info? 53).map (·.size) = some (lpCells a b 0 c 0 0).size := fun a b c => bg_infoP
                have honA : ∀ a b c : Int, (lpCells a b 0 c 0 0).all (·.oneCell') = true := fun a b c => PR.one (p := ⟨a, b, 0, c, LR.light 0 0⟩) (light_sl 0 0)
                have hszA : ∀ a b c : Int, (Try.prog.info? 53).map (·.size) = some (lpCells a b 0 c 0 0).toList.length := fun a b c => bg_infoP
                obtain ⟨q, hq⟩ : ∃ q : Nat, p.s = (q : Nat) := ⟨p.s.toNat, by omega⟩
                have hq0n : 0 < q := by omega
                have hqm : q ≤ 9223372036854775807 := by have := PO.out.2.2.2; omega
                have hpsl : p.r.sl := by
                  obtain ⟨⟨A, c, e1, _⟩, ⟨B, d, e2, _⟩, _⟩ := PO.out
                  exact ⟨⟨_, _, _, e1⟩, _, _, _, e2⟩
                have C1 : Hid (Calls Try.prog 17 #[.pointer (some ⟨ga, 0, none⟩), .agg p.cells] w5 fun e w' => ∃ r1 ts c' ks' T c, AlikeP p.r r1 ∧ Follows (s.took p.a q r1).came (s.took p.a q r1).kept ts c' ks' ∧ e = .returned (.tuple #[.slice T ts.length c, .agg (lpCells s.me s.peer 0 (c' : Nat) 0 0), .bool true]) ∧ PX W w' [pb, ob] ga gr gb {(s.took p.a q r1) with came := c', kept := ks'} t es (.slice T ts.length c) ts ∧ KeepsB [pb, ob] w5 w') := HP5.out.gotNew hok.1 hok.2 p q hp hq hq0n hqm PO.out.1 PO.out.2.1 PO.out.2.2.1
                have C2 : Hid (∀ w B s' tv ts, PX W w B ga gr gb s' t es tv ts → Calls Try.prog 18 #[.pointer (some ⟨gr, 0, none⟩), .agg p.cells] w fun e w' => ∃ T c rs c' ks', e = .returned (.tuple #[.slice T rs.length c, .agg (lpCells t.me t.peer 0 (c' : Nat) 0 0), .bool true]) ∧ RFol (t.took p).came (t.took p).kept rs c' ks' ∧ PX W w' ((Value.slice T rs.length c).ownBlock.toList ++ B) ga gr gb s' {t.took p with came := c', kept := ks'} es tv ts ∧ KeepsB B w w' ∧ w'.ownsRow w.heap.size 51 21 (.slice T rs.length c) rs.length (rowC LR.cells rs)) := fun w B s' tv ts h => h.rgotNew hou.1 hou.2.1 p ((HI.out.rel.takes p).2 hp) (by omega) PO.out.2.2.2 hnu.2.2.2.1 hnu.2.2.2.2 hpsl hnu.2.2.1
                have HKEY : Hid (∀ r1 ts c' ks' rs d rks' (v : Value), AlikeP p.r r1 → Follows (s.took p.a q r1).came (s.took p.a q r1).kept ts c' ks' → RFol (t.took p).came (t.took p).kept rs d rks' → d = c' ∧ rs.map (·.l) = ts.map (·.l) ∧ (∀ r ∈ ts, r.Sm) ∧ ts.length ≤ 1000 ∧ (∀ r ∈ rs, SlAt W r.a r.l.ti ∧ SlAt W r.b r.l.li) ∧ PInv W me peer {(s.took p.a q r1) with came := c', kept := ks'} {t.took p with came := d, kept := rks'} (es ++ [(v, ts)]) (i + 1)) := fun r1 ts c' ks' rs d rks' v h1 h2 h3 => HI.out.got (by omega) hp.2.2.2.2 hq h1 PO.out.1 PO.out.2.1 PO.out.2.2.1 h2 h3 v
                have C3 : Hid (∀ w B s' t' T n c ts, PX W w B ga gr gb s' t' es (.slice T n c) ts → (∀ r ∈ ts, r.Sm) → ts.length ≤ 1000 → Calls Try.prog 19 #[.pointer (some ⟨gb, 0, none⟩), .slice T n c] w fun e w' => e = .returned (.tuple #[]) ∧ PX W w' B ga gr gb s' t' (es ++ [(.slice T n c, ts)]) nilV [] ∧ KeepsB B w w') := fun w B s' t' T n c ts h h1 h2 => h.book h1 (by have := HI.out.el; omega) (by omega)
                have C4 : Hid (∀ (w : World) (A B : Option Addr) (c d n : Nat) (ls ms : List LR), LsAt w A ls → LsAt w B ms → ms.map (·.l) = ls.map (·.l) → ls.length = n → n ≤ 1000 → Calls Try.prog 20 #[.slice A n c, .slice B n d] w fun e w' => e = .returned (.bool true) ∧ Below w.heap.size w w') := fun w A B c d n ls ms h1 h2 h3 h4 h5 => sameLs_any A B c d n ls ms w h1 h2 h3 h4 (by omega)
                have C5 : Hid (∀ (w : World) (a b c : Int), Calls Try.prog 12 #[.agg (lpCells a b 0 c 0 0), .agg (lpCells a b 0 c 0 0)] w fun e w' => e = .returned (.bool true) ∧ Below w.heap.size w w') := fun w a b c => samePk_any ⟨a, b, 0, c, LR.light 0 0⟩ ⟨a, b, 0, c, LR.light 0 0⟩ w rfl rfl rfl rfl rfl (SlAt.nil _) (SlAt.nil _) (SlAt.nil _) (SlAt.nil _)
                have HME : Hid (t.me = s.me ∧ t.peer = s.peer) := ⟨HI.out.rel.me, HI.out.rel.peer⟩
                clear hok hou hnu hpsl hq
                go_upto_region 16 with (first
                  | (with_reducible (show wpList _ _ _ (⟨some 84, Op.load _ (Operand.tmp 16), _, _, _, _⟩ :: _) _ _); go_must (refine wpList_load_row rfl 53 (.tmp 16) rfl pb rfl 53 p.cells (0, 0) _ HPB.out Try.underlying53 rfl hszp ?_))
                  | (go_at_call 17; (with_reducible refine (C1.out).mono ?_); rintro e w6 ⟨r1, ts, c', ks', T, cT, hal, hfo, rfl, h6, k6⟩; have HFO := Lib.hid (And.intro hal hfo); have B6 := Lib.hid (k6.heap (q := pb) (by simp) HPB.out); have H6 := Lib.hid (h6.box (lpCells 0 0 0 0 0 0) (lpCells s.me s.peer 0 (c' : Nat) 0 0) 53); clear h6 k6 hal hfo)
                  | (with_reducible (show wpList _ _ _ (⟨none, Op.store _ (Operand.tmp 18) _, _, _, _, _⟩ :: _) _ _); go_must (refine wpList_store_row rfl 53 (.tmp 18) (.tmp 87) rfl w6.heap.size (lpCells s.me s.peer 0 (c' : Nat) 0 0) rfl rfl 53 (lpCells 0 0 0 0 0 0) (heap_alloc_new w6 _) (hszB _ _ _) rfl (honA _ _ _) ?_)))
                obtain ⟨ab, hab⟩ : ∃ z, w6.heap.size = z := ⟨_, rfl⟩
                obtain ⟨w7, hw7⟩ : ∃ z, (w6.alloc (.cells (lpCells 0 0 0 0 0 0) 53)).setRow w6.heap.size (lpCells s.me s.peer 0 (c' : Nat) 0 0) = z := ⟨_, rfl⟩
                have HA7 : Hid (w7.heap[ab]? = some (.cells (lpCells s.me s.peer 0 (c' : Nat) 0 0) 53)) := by rw [← hw7, ← hab]; exact H6.out.2
                have HP7 : Hid (w7.heap[pb]? = some (.cells p.cells 53)) := by rw [← hw7]; exact bg_new_old B6.out
                have HX7 : Hid (PX W w7 [ab, pb, ob] ga gr gb {(s.took p.a q r1) with came := c', kept := ks'} t es (.slice T ts.length cT) ts) := by rw [← hw7, ← hab]; exact H6.out.1
                rw [hw7]
                rw [hab]
                clear hw7 hab H6 B6 C1 HPB HP5
                go_upto_region 17 with (first
                  | (with_reducible (show wpList _ _ _ (⟨some 91, Op.load _ (Operand.tmp 16), _, _, _, _⟩ :: _) _ _); go_must (refine wpList_load_row rfl 53 (.tmp 16) rfl pb rfl 53 p.cells (0, 0) _ HP7.out Try.underlying53 rfl hszp ?_))
                  | (go_at_call 18; (with_reducible refine (C2.out _ _ _ _ _ HX7.out).mono ?_); rintro e w8 ⟨TB, cB, rs, d, rks', rfl, hrf, h8, k8, r8⟩; have HRF := Lib.hid hrf; have HA8 := Lib.hid (k8.heap (q := ab) (by simp) HA7.out); have HR8 := Lib.hid r8; have H8 := Lib.hid (h8.box (lpCells 0 0 0 0 0 0) (lpCells t.me t.peer 0 (d : Nat) 0 0) 53); clear h8 k8 r8 hrf)
                  | (with_reducible (show wpList _ _ _ (⟨none, Op.store _ (Operand.tmp 21) _, _, _, _, _⟩ :: _) _ _); go_must (refine wpList_store_row rfl 53 (.tmp 21) (.tmp 94) rfl w8.heap.size (lpCells t.me t.peer 0 (d : Nat) 0 0) rfl rfl 53 (lpCells 0 0 0 0 0 0) (heap_alloc_new w8 _) (hszB _ _ _) rfl (honA _ _ _) ?_)))
                obtain ⟨hd1, hd2, hd3, hd4, hd5, hd6⟩ := HKEY.out r1 ts c' ks' rs d rks' (.slice T ts.length cT) HFO.out.1 HFO.out.2 HRF.out
                obtain ⟨hm1, hm2⟩ := HME.out
                subst hd1
                rw [hm1, hm2] at H8 ⊢
                have hrl : rs.length = ts.length := by have := congrArg List.length hd2; simpa using this
                have hr8 := HR8.out
                rw [hrl] at hr8 H8 ⊢
                obtain ⟨n9, hn9⟩ : ∃ z, ts.length = z := ⟨_, rfl⟩
                rw [hn9] at hr8 H8 hd6 ⊢
                obtain ⟨bb, hbb⟩ : ∃ z, w8.heap.size = z := ⟨_, rfl⟩
                obtain ⟨w9, hw9⟩ : ∃ z, (w8.alloc (.cells (lpCells 0 0 0 0 0 0) 53)).setRow w8.heap.size (lpCells s.me s.peer 0 (d : Nat) 0 0) = z := ⟨_, rfl⟩
                have HA9 : Hid (w9.heap[ab]? = some (.cells (lpCells s.me s.peer 0 (d : Nat) 0 0) 53)) := by rw [← hw9]; exact bg_new_old HA8.out
                have HB9 : Hid (w9.heap[bb]? = some (.cells (lpCells s.me s.peer 0 (d : Nat) 0 0) 53)) := by rw [← hw9, ← hbb]; exact H8.out.2
                have HX9 : Hid (PX W w9 (bb :: ((Value.slice TB n9 cB).ownBlock.toList ++ [ab, pb, ob])) ga gr gb {(s.took p.a q r1) with came := d, kept := ks'} {t.took p with came := d, kept := rks'} es (.slice T n9 cT) ts) := by rw [← hw9, ← hbb]; exact H8.out.1
                have HR9 : Hid (w9.ownsRow 0 51 21 (.slice TB n9 cB) n9 (rowC LR.cells rs)) := by rw [← hw9]; exact lk_base (lk_below hr8 (bg_new _ _ _ _)) (Nat.zero_le _)
                have HD2 := Lib.hid hd2
                have HD3 := Lib.hid hd3
                have HD4 := Lib.hid hd4
                have HD5 := Lib.hid hd5
                have HPI := Lib.hid hd6
                have HN9 := Lib.hid hn9
                have hrl9 : rs.length = n9 := hrl.trans hn9
                have HRL := Lib.hid hrl9
                rw [hw9]
                rw [hbb]
                clear hw9 hbb H8 HR8 HA8 HA7 HP7 HX7 C2 HKEY HFO HRF HME hd2 hd3 hd4 hd5 hd6 hn9 hm1 hm2 hrl hr8 hrl9
                obtain ⟨s9, hs9⟩ : ∃ z, ({(s.took p.a q r1) with came := d, kept := ks'} : LS) = z := ⟨_, rfl⟩
                obtain ⟨t9, ht9⟩ : ∃ z, ({t.took p with came := d, kept := rks'} : RL) = z := ⟨_, rfl⟩
                rw [hs9, ht9] at HX9 HPI
                clear hs9 ht9
                go_upto_region 18 with (go_at_call 19; (with_reducible refine (C3.out _ _ _ _ _ _ _ _ HX9.out HD3.out HD4.out).mono ?_); rintro e wa ⟨rfl, ha, ka⟩; have HXA := Lib.hid ha; have HAA := Lib.hid (ka.heap (q := ab) (by simp) HA9.out); have HBA := Lib.hid (ka.heap (q := bb) (by simp) HB9.out); have HRA9 := Lib.hid (ka.row HR9.out (fun z hz => by simp [hz])); clear ha ka)
                have HLS : Hid (LsAt wa T ts) := HXA.out.last
                have HLR : Hid (LsAt wa TB rs) := lsAt_row HRA9.out HRL.out (fun r hr => ⟨(HD5.out r hr).1.below HXA.out.base, (HD5.out r hr).2.below HXA.out.base⟩)
                have HRG : Hid (∀ (w' : World) (q : Nat), w'.heap[q]? = some (.cells (lpCells s.me s.peer 0 (d : Nat) 0 0) 53) → w'.rangeAt q 0 (lpCells s.me s.peer 0 (d : Nat) 0 0).toList) := fun w' q e => box_range e
                go_wp2_with (first
                  | (go_at_call 20; (with_reducible refine (C4.out _ _ _ _ _ _ _ _ HLS.out HLR.out HD2.out HN9.out (by rw [← HN9.out]; exact HD4.out)).mono ?_); rintro e wb ⟨rfl, bb1⟩; have HWB := Lib.hid bb1; have HAB := Lib.hid ((bb1.block _ (bg_lt HAA.out)).trans HAA.out); have HBB := Lib.hid ((bb1.block _ (bg_lt HBA.out)).trans HBA.out); clear bb1)
                  | (with_reducible (show wpList _ _ _ (⟨some 104, Op.load _ (Operand.tmp 18), _, _, _, _⟩ :: _) _ _); go_must (refine lk_load_midH (by kernel_rfl) 53 (.tmp 18) rfl ab 0 rfl ((lpCells s.me s.peer 0 (d : Nat) 0 0)).toList _ (HRG.out _ _ HAB.out) Try.underlying53 rfl (hszA _ _ _) ?_))
                  | (with_reducible (show wpList _ _ _ (⟨some 105, Op.load _ (Operand.tmp 21), _, _, _, _⟩ :: _) _ _); go_must (refine lk_load_midH (by kernel_rfl) 53 (.tmp 21) rfl bb 0 rfl ((lpCells s.me s.peer 0 (d : Nat) 0 0)).toList _ (HRG.out _ _ HBB.out) Try.underlying53 rfl (hszA _ _ _) ?_))
                  | (go_at_call 12; (with_reducible refine (C5.out _ _ _ _).mono ?_); rintro e wc ⟨rfl, bc1⟩; have HWC := Lib.hid (acc HWB.out bc1); clear bc1))
                obtain ⟨wT, hwT9⟩ : ∃ z : World, z = wc := ⟨_, rfl⟩
                obtain ⟨sT, hsT⟩ : ∃ z : LS, (s9) = z := ⟨_, rfl⟩
                obtain ⟨tT, htT⟩ : ∃ z : RL, (t9 : RL) = z := ⟨_, rfl⟩
                obtain ⟨esT, heT⟩ : ∃ z, es ++ [(.slice T n9 cT, ts)] = z := ⟨_, rfl⟩
                have HT : Hid (PX W wT (bb :: ((Value.slice TB n9 cB).ownBlock.toList ++ [ab, pb, ob])) ga gr gb sT tT esT nilV []) := by rw [hwT9, ← hsT, ← htT, ← heT]; exact HXA.out.below HWC.out
                have HJ : Hid (PInv W me peer sT tT esT (i + 1)) := by rw [← hsT, ← htT, ← heT]; exact HPI.out
                rw [← hwT9]
                clear hwT9 hsT htT heT
                clear C3 C4 C5 HRG HAA HBA HAB HBB HWB HWC HXA HX9 HA9 HB9 HPI HR9 HRA9 HLS HLR HD2 HD3 HD4 HD5 HN9 HRL
                obtain ⟨-, ⟨A3, k3, c3⟩, c4, A5, k5, c5⟩ := HT.out.reads
                have ho9 := HJ.out.rel.outLen
                have hk9 := HJ.out.rel.keptLen
                have hc9 := HJ.out.rel.came
                have hb9 := (HJ.out.ok (by omega)).1
                have hb91 := hb9.kept
                have hb92 := hb9.waits
                have hb93 := hb9.sent
                have CW : Hid (∀ j, Calls Try.prog 21 #[.pointer (some ⟨ga, 0, none⟩)] (wT.drewN j) fun e w' => e = .returned (.int .i64 (sT.waits.length : Nat)) ∧ w' = wT.drewN j) := fun j => (HT.out.below (below_drewN (Below.refl _ _) j)).waits
                have CC : Hid (∀ j, Calls Try.prog 22 #[.pointer (some ⟨ga, 0, none⟩)] (wT.drewN j) fun e w' => e = .returned (.int .i64 (sT.came : Nat)) ∧ w' = wT.drewN j) := fun j => (HT.out.below (below_drewN (Below.refl _ _) j)).came
                have CR : Hid (∀ j, Calls Try.prog 23 #[.pointer (some ⟨ga, 0, none⟩)] (wT.drewN j) fun e w' => e = .returned (.bool (((sT.waits.length : Int) + (sT.kept.length : Int)) == 0)) ∧ w' = wT.drewN j) := fun j => by rw [← rest_eq]; exact (HT.out.below (below_drewN (Below.refl _ _) j)).rest
                obtain ⟨mT, hmT⟩ : ∃ z, sT.waits.length = z := ⟨_, rfl⟩
                obtain ⟨kT, hkT⟩ : ∃ z, sT.kept.length = z := ⟨_, rfl⟩
                obtain ⟨cT9, hcT⟩ : ∃ z, sT.came = z := ⟨_, rfl⟩
                rw [ho9] at c3
                rw [hk9] at c5
                rw [hc9] at c4
                rw [hmT] at CW CR c3 hb92
                rw [hkT] at CR c5 hb91
                rw [hcT] at CC c4
                have hwT : IntKind.i64.wrap ((mT : Int) + (kT : Int)) = (mT : Int) + (kT : Int) := by rw [IntKind.wrap_i64]; omega
                clear ho9 hk9 hc9 hb9 hmT hkT hcT
                go_upto_region 33 with fail
                go_quiet (first
                  | (go_at_call 21; exact Calls.quiet_of_same (CW.out _))
                  | (go_at_call 22; exact Calls.quiet_of_same (CC.out _))
                  | (go_at_call 23; exact Calls.quiet_of_same (CR.out _)))
                go_wp2_with fail
                go_roundg (gk - 1)
                case measure => omega
                case rel => exact ⟨i + 1, sT, tT, esT, by omega, by omega, by go_num, (HT.out.below (below_drewN (Below.refl _ _) _)).less (by simp), HJ.out⟩
            · skip
              have hok := HI.out.ok (by omega)
              have hou := HI.out.outs (by omega)
              have hnu := HI.out.nums (by omega)
              have hszp : (Try.prog.info? 53).map (·.size) = some p.cells.size := bg_infoP
              have hszB : ∀ a b c : Int, (Try.prog.info? 53).map (·.size) = some (lpCells a b 0 c 0 0).size := fun a b c => bg_infoP
              have honA : ∀ a b c : Int, (lpCells a b 0 c 0 0).all (·.oneCell') = true := fun a b c => PR.one (p := ⟨a, b, 0, c, LR.light 0 0⟩) (light_sl 0 0)
              have hszA : ∀ a b c : Int, (Try.prog.info? 53).map (·.size) = some (lpCells a b 0 c 0 0).toList.length := fun a b c => bg_infoP
              have C1 : Hid (Calls Try.prog 17 #[.pointer (some ⟨ga, 0, none⟩), .agg p.cells] w5 fun e w' => e = .returned (.tuple #[.slice none 0 0, .agg (lpCells 0 0 0 0 0 0), .bool false]) ∧ PX W w' [pb, ob] ga gr gb s t es nilV [] ∧ KeepsB [pb, ob] w5 w') := HP5.out.gotNot p hp
              have C2 : Hid (∀ w B, PX W w B ga gr gb s t es nilV [] → Calls Try.prog 18 #[.pointer (some ⟨gr, 0, none⟩), .agg p.cells] w fun e w' => e = .returned (.tuple #[.slice none 0 0, .agg (lpCells 0 0 0 0 0 0), .bool false]) ∧ PX W w' B ga gr gb s t es nilV [] ∧ KeepsB B w w') := fun w B h => h.rgotNot p (fun z => hp ((HI.out.rel.takes p).1 z))
              have HPI := Lib.hid HI.out.none
              have C3 : Hid (∀ w B, PX W w B ga gr gb s t es nilV [] → Calls Try.prog 19 #[.pointer (some ⟨gb, 0, none⟩), .slice none 0 0] w fun e w' => e = .returned (.tuple #[]) ∧ PX W w' B ga gr gb s t (es ++ [(nilV, [])]) nilV [] ∧ KeepsB B w w') := fun w B h => h.book (by simp) (by have := HI.out.el; omega) (by simp)
              have C4 : Hid (∀ w : World, Calls Try.prog 20 #[.slice none 0 0, .slice none 0 0] w fun e w' => e = .returned (.bool true) ∧ Below w.heap.size w w') := fun w => sameLs_any none none 0 0 0 [] [] w ⟨0, 0, by simp, by simp⟩ ⟨0, 0, by simp, by simp⟩ rfl rfl (by omega)
              have C5 : Hid (∀ (w : World) (a b c : Int), Calls Try.prog 12 #[.agg (lpCells a b 0 c 0 0), .agg (lpCells a b 0 c 0 0)] w fun e w' => e = .returned (.bool true) ∧ Below w.heap.size w w') := fun w a b c => samePk_any ⟨a, b, 0, c, LR.light 0 0⟩ ⟨a, b, 0, c, LR.light 0 0⟩ w rfl rfl rfl rfl rfl (SlAt.nil _) (SlAt.nil _) (SlAt.nil _) (SlAt.nil _)
              clear hok hou hnu
              go_upto_region 17 with (first
                | (with_reducible (show wpList _ _ _ (⟨some 84, Op.load _ (Operand.tmp 16), _, _, _, _⟩ :: _) _ _); go_must (refine wpList_load_row rfl 53 (.tmp 16) rfl pb rfl 53 p.cells (0, 0) _ HPB.out Try.underlying53 rfl hszp ?_))
                | (go_at_call 17; (with_reducible refine (C1.out).mono ?_); rintro e w6 ⟨rfl, h6, k6⟩; have B6 := Lib.hid (k6.heap (q := pb) (by simp) HPB.out); have H6 := Lib.hid (h6.box (lpCells 0 0 0 0 0 0) (lpCells 0 0 0 0 0 0) 53); clear h6 k6)
                | (with_reducible (show wpList _ _ _ (⟨none, Op.store _ (Operand.tmp 18) _, _, _, _, _⟩ :: _) _ _); go_must (refine wpList_store_row rfl 53 (.tmp 18) (.tmp 87) rfl w6.heap.size (lpCells 0 0 0 0 0 0) rfl rfl 53 (lpCells 0 0 0 0 0 0) (heap_alloc_new w6 _) (hszB _ _ _) rfl (honA _ _ _) ?_))
                | (with_reducible (show wpList _ _ _ (⟨some 91, Op.load _ (Operand.tmp 16), _, _, _, _⟩ :: _) _ _); go_must (refine wpList_load_row rfl 53 (.tmp 16) rfl pb rfl 53 p.cells (0, 0) _ (bg_new_old B6.out) Try.underlying53 rfl hszp ?_))
                | (go_at_call 18; (with_reducible refine (C2.out _ _ H6.out.1).mono ?_); rintro e w8 ⟨rfl, h8, k8⟩; have B8 := Lib.hid (k8.heap (q := w6.heap.size) (by simp) H6.out.2); have H8 := Lib.hid (h8.box (lpCells 0 0 0 0 0 0) (lpCells 0 0 0 0 0 0) 53); clear h8 k8)
                | (with_reducible (show wpList _ _ _ (⟨none, Op.store _ (Operand.tmp 21) _, _, _, _, _⟩ :: _) _ _); go_must (refine wpList_store_row rfl 53 (.tmp 21) (.tmp 94) rfl w8.heap.size (lpCells 0 0 0 0 0 0) rfl rfl 53 (lpCells 0 0 0 0 0 0) (heap_alloc_new w8 _) (hszB _ _ _) rfl (honA _ _ _) ?_)))
              obtain ⟨ab, hab⟩ : ∃ z, w6.heap.size = z := ⟨_, rfl⟩
              obtain ⟨bb, hbb⟩ : ∃ z, w8.heap.size = z := ⟨_, rfl⟩
              obtain ⟨w9, hw9⟩ : ∃ z, (w8.alloc (.cells (lpCells 0 0 0 0 0 0) 53)).setRow w8.heap.size (lpCells 0 0 0 0 0 0) = z := ⟨_, rfl⟩
              have HA9 : Hid (w9.heap[ab]? = some (.cells (lpCells 0 0 0 0 0 0) 53)) := by rw [← hw9, ← hab]; exact bg_new_old B8.out
              have HB9 : Hid (w9.heap[bb]? = some (.cells (lpCells 0 0 0 0 0 0) 53)) := by rw [← hw9, ← hbb]; exact H8.out.2
              have HX9 : Hid (PX W w9 [bb, ab, pb, ob] ga gr gb s t es nilV []) := by rw [← hw9, ← hbb, ← hab]; exact H8.out.1
              rw [hw9]
              rw [hab, hbb]
              clear hw9 hab hbb H6 H8 B6 B8 C1 C2 HPB HP5
              go_upto_region 18 with (go_at_call 19; (with_reducible refine (C3.out _ _ HX9.out).mono ?_); rintro e wa ⟨rfl, ha, ka⟩; have HXA := Lib.hid ha; have HAA := Lib.hid (ka.heap (q := ab) (by simp) HA9.out); have HBA := Lib.hid (ka.heap (q := bb) (by simp) HB9.out); clear ha ka)
              have HRG : Hid (∀ (w' : World) (q : Nat), w'.heap[q]? = some (.cells (lpCells 0 0 0 0 0 0) 53) → w'.rangeAt q 0 (lpCells 0 0 0 0 0 0).toList) := fun w' q e => box_range e
              go_wp2_with (first
                | (go_at_call 20; (with_reducible refine (C4.out _).mono ?_); rintro e wb ⟨rfl, bb1⟩; have HWB := Lib.hid bb1; have HAB := Lib.hid ((bb1.block _ (bg_lt HAA.out)).trans HAA.out); have HBB := Lib.hid ((bb1.block _ (bg_lt HBA.out)).trans HBA.out); clear bb1)
                | (with_reducible (show wpList _ _ _ (⟨some 104, Op.load _ (Operand.tmp 18), _, _, _, _⟩ :: _) _ _); go_must (refine lk_load_midH (by kernel_rfl) 53 (.tmp 18) rfl ab 0 rfl ((lpCells 0 0 0 0 0 0)).toList _ (HRG.out _ _ HAB.out) Try.underlying53 rfl (hszA _ _ _) ?_))
                | (with_reducible (show wpList _ _ _ (⟨some 105, Op.load _ (Operand.tmp 21), _, _, _, _⟩ :: _) _ _); go_must (refine lk_load_midH (by kernel_rfl) 53 (.tmp 21) rfl bb 0 rfl ((lpCells 0 0 0 0 0 0)).toList _ (HRG.out _ _ HBB.out) Try.underlying53 rfl (hszA _ _ _) ?_))
                | (go_at_call 12; (with_reducible refine (C5.out _ _ _ _).mono ?_); rintro e wc ⟨rfl, bc1⟩; have HWC := Lib.hid (acc HWB.out bc1); clear bc1))
              obtain ⟨wT, hwT9⟩ : ∃ z : World, z = wc := ⟨_, rfl⟩
              obtain ⟨sT, hsT⟩ : ∃ z : LS, (s) = z := ⟨_, rfl⟩
              obtain ⟨tT, htT⟩ : ∃ z : RL, (t : RL) = z := ⟨_, rfl⟩
              obtain ⟨esT, heT⟩ : ∃ z, es ++ [(nilV, [])] = z := ⟨_, rfl⟩
              have HT : Hid (PX W wT [bb, ab, pb, ob] ga gr gb sT tT esT nilV []) := by rw [hwT9, ← hsT, ← htT, ← heT]; exact HXA.out.below HWC.out
              have HJ : Hid (PInv W me peer sT tT esT (i + 1)) := by rw [← hsT, ← htT, ← heT]; exact HPI.out
              rw [← hwT9]
              clear hwT9 hsT htT heT
              clear C3 C4 C5 HRG HAA HBA HAB HBB HWB HWC HXA HX9 HA9 HB9 HPI
              obtain ⟨-, ⟨A3, k3, c3⟩, c4, A5, k5, c5⟩ := HT.out.reads
              have ho9 := HJ.out.rel.outLen
              have hk9 := HJ.out.rel.keptLen
              have hc9 := HJ.out.rel.came
              have hb9 := (HJ.out.ok (by omega)).1
              have hb91 := hb9.kept
              have hb92 := hb9.waits
              have hb93 := hb9.sent
              have CW : Hid (∀ j, Calls Try.prog 21 #[.pointer (some ⟨ga, 0, none⟩)] (wT.drewN j) fun e w' => e = .returned (.int .i64 (sT.waits.length : Nat)) ∧ w' = wT.drewN j) := fun j => (HT.out.below (below_drewN (Below.refl _ _) j)).waits
              have CC : Hid (∀ j, Calls Try.prog 22 #[.pointer (some ⟨ga, 0, none⟩)] (wT.drewN j) fun e w' => e = .returned (.int .i64 (sT.came : Nat)) ∧ w' = wT.drewN j) := fun j => (HT.out.below (below_drewN (Below.refl _ _) j)).came
              have CR : Hid (∀ j, Calls Try.prog 23 #[.pointer (some ⟨ga, 0, none⟩)] (wT.drewN j) fun e w' => e = .returned (.bool (((sT.waits.length : Int) + (sT.kept.length : Int)) == 0)) ∧ w' = wT.drewN j) := fun j => by rw [← rest_eq]; exact (HT.out.below (below_drewN (Below.refl _ _) j)).rest
              obtain ⟨mT, hmT⟩ : ∃ z, sT.waits.length = z := ⟨_, rfl⟩
              obtain ⟨kT, hkT⟩ : ∃ z, sT.kept.length = z := ⟨_, rfl⟩
              obtain ⟨cT9, hcT⟩ : ∃ z, sT.came = z := ⟨_, rfl⟩
              rw [ho9] at c3
              rw [hk9] at c5
              rw [hc9] at c4
              rw [hmT] at CW CR c3 hb92
              rw [hkT] at CR c5 hb91
              rw [hcT] at CC c4
              have hwT : IntKind.i64.wrap ((mT : Int) + (kT : Int)) = (mT : Int) + (kT : Int) := by rw [IntKind.wrap_i64]; omega
              clear ho9 hk9 hc9 hb9 hmT hkT hcT
              go_upto_region 33 with fail
              go_quiet (first
                | (go_at_call 21; exact Calls.quiet_of_same (CW.out _))
                | (go_at_call 22; exact Calls.quiet_of_same (CC.out _))
                | (go_at_call 23; exact Calls.quiet_of_same (CR.out _)))
              go_wp2_with fail
              go_roundg (gk - 1)
              case measure => omega
              case rel => exact ⟨i + 1, sT, tT, esT, by omega, by omega, by go_num, (HT.out.below (below_drewN (Below.refl _ _) _)).less (by simp), HJ.out⟩
    · obtain rfl : n = i := by omega
      have CAP : Hid (∀ w, Below wr.heap.size wr w → Calls Try.prog 24 #[.pointer (some ⟨gb, 0, none⟩)] w fun e w' => e = .returned (.bool true) ∧ Below W.heap.size W w') := fun w hb => (HX.out.below hb).apart (by have := HI.out.el; omega) (fun x hx => Nat.le_trans (HI.out.lens x hx) (by omega))
      have C1 : Hid (∀ w : World, Calls Try.prog 17 #[.pointer none, .agg (lpCells 0 0 0 0 0 0)] w fun e w' => e = .returned (.tuple #[.slice none 0 0, .agg (lpCells 0 0 0 0 0 0), .bool false]) ∧ Below w.heap.size w w') := fun w => gotNil_any w ⟨0, 0, 0, 0, LR.light 0 0⟩
      have C2 : Hid (∀ w : World, Calls Try.prog 13 #[.pointer none, .agg (ltCells 1 0)] w fun e w' => e = .returned (.agg (lpCells 0 0 0 0 0 0)) ∧ Below w.heap.size w w') := fun w => sendNil_any w (LR.light 1 0)
      have C3 : Hid (∀ w : World, Calls Try.prog 12 #[.agg (lpCells 0 0 0 0 0 0), .agg (lpCells 0 0 0 0 0 0)] w fun e w' => e = .returned (.bool true) ∧ Below w.heap.size w w') := fun w => samePkZ_any w
      have C4 : Hid (∀ w : World, Calls Try.prog 15 #[.pointer none] w fun e w' => e = .returned (.slice none 0 0) ∧ w' = w) := fun w => tickNil_any w
      have C5 : Hid (∀ w : World, Calls Try.prog 21 #[.pointer none] w fun e w' => e = .returned (.int .i64 0) ∧ w' = w) := fun w => waitsNil_any w
      have C6 : Hid (∀ w : World, Calls Try.prog 22 #[.pointer none] w fun e w' => e = .returned (.int .i64 0) ∧ w' = w) := fun w => cameNil_any w
      have C7 : Hid (∀ w : World, Calls Try.prog 23 #[.pointer none] w fun e w' => e = .returned (.bool true) ∧ w' = w) := fun w => restNil_any w
      have hszB : ∀ a b c : Int, (Try.prog.info? 53).map (·.size) = some (lpCells a b 0 c 0 0).size := fun a b c => bg_infoP
      have honA : ∀ a b c : Int, (lpCells a b 0 c 0 0).all (·.oneCell') = true := fun a b c => PR.one (p := ⟨a, b, 0, c, LR.light 0 0⟩) (light_sl 0 0)
      have hwz : IntKind.i64.wrap (0 : Int) = 0 := by decide
      go_wp2_with (first
        | (go_at_call 17; (with_reducible refine (C1.out _).mono ?_); rintro e w3 ⟨rfl, b3⟩; have HB3 := Lib.hid b3; clear b3)
        | (with_reducible (show wpList _ _ _ (⟨none, Op.store _ (Operand.tmp 25) _, _, _, _, _⟩ :: _) _ _); go_must (refine wpList_store_row rfl 53 (.tmp 25) (.tmp 193) rfl w3.heap.size (lpCells 0 0 0 0 0 0) rfl rfl 53 (lpCells 0 0 0 0 0 0) (heap_alloc_new w3 _) (hszB _ _ _) rfl (honA _ _ _) ?_))
        | (go_at_call 13; (with_reducible refine (C2.out _).mono ?_); rintro e w4 ⟨rfl, b4⟩; have HB4 := Lib.hid (acc (acc HB3.out (bg_new w3 (lpCells 0 0 0 0 0 0) (lpCells 0 0 0 0 0 0) 53)) b4); clear b4)
        | (go_at_call 12; (with_reducible refine (C3.out _).mono ?_); rintro e w5 ⟨rfl, b5⟩; have HB5 := Lib.hid (acc HB4.out b5); clear b5)
        | (go_at_call 15; (with_reducible refine (C4.out _).mono ?_); rintro e w6 ⟨rfl, rfl⟩)
        | (go_at_call 21; (with_reducible refine (C5.out _).mono ?_); rintro e w6 ⟨rfl, rfl⟩)
        | (go_at_call 22; (with_reducible refine (C6.out _).mono ?_); rintro e w6 ⟨rfl, rfl⟩)
        | (go_at_call 23; (with_reducible refine (C7.out _).mono ?_); rintro e w6 ⟨rfl, rfl⟩)
        | (go_at_call 24; (with_reducible refine (CAP.out _ HB5.out).mono ?_); rintro e w8 ⟨rfl, b8⟩; have HB8 := Lib.hid b8; clear b8))
      go_ret
      exact ⟨rfl, HB8.out⟩
end Go.Proofs.Ytfemdfidfomchaa
