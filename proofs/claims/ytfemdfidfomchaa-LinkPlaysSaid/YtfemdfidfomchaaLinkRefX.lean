/-
  The document's Got of what it takes. (Written by tools/genLKRH.py.)
  The document's Got of what it does not take. (Written by tools/genLKRG.py.)
  The document's Tick. (Written by tools/genLKRT.py.)
-/
import Derived.Test.YtfemdfidfomchaaLinkRefP
import Derived.Test.YtfemdfidfomchaaHeldTill
import Derived.Deep.DeepCutAuto
import Derived.BigQuiet
namespace Go.Proofs.Ytfemdfidfomchaa
open Go.RowKit

set_option maxRecDepth 20000 in
set_option maxHeartbeats 8000000 in
theorem refGotAck_any {W : World} {g : Nat} {s : RL} {V K : Value} (h : RLX W g s V K) (hlo : s.out.length ≤ 1000000) (hso : ∀ x ∈ s.out, x.2.2.sl) (p : PR) (hp : s.takes p) (hq0 : p.s = 0) :
    Calls Try.prog 18 #[.pointer (some ⟨g, 0, none⟩), .agg p.cells] W fun e w' => e = .returned (.tuple #[.slice none 0 0, .agg (lpCells 0 0 0 0 0 0), .bool true]) ∧ RStep W w' g V K (s.known p.a) := by
  have B2 : Below W.heap.size W ((W.alloc (.cells p.cells 53)).alloc (.cells (lpCells 0 0 0 0 0 0) 53)) := ((Below.refl _ _).alloc (Nat.le_refl _) _).alloc (by simp) _
  have b1 : ((W.alloc (.cells p.cells 53)).alloc (.cells (lpCells 0 0 0 0 0 0) 53)).heap[W.heap.size]? = some (.cells p.cells 53) := (Lib.alloc_old _ _ _ (by simp)).trans (heap_alloc_new W _)
  have b2 : ((W.alloc (.cells p.cells 53)).alloc (.cells (lpCells 0 0 0 0 0 0) 53)).heap[W.heap.size + 1]? = some (.cells (lpCells 0 0 0 0 0 0) 53) := by
    have := heap_alloc_new (W.alloc (.cells p.cells 53)) (.cells (lpCells 0 0 0 0 0 0) 53)
    simpa using this
  have hgl : g < W.heap.size := bg_lt h.hg
  obtain ⟨w2, hw2⟩ : ∃ w2, (W.alloc (.cells p.cells 53)).alloc (.cells (lpCells 0 0 0 0 0 0) 53) = w2 := ⟨_, rfl⟩
  rw [hw2] at B2 b1 b2
  have hg2 := (B2.block g hgl).trans h.hg
  have x0 : w2.cell? ⟨W.heap.size, 0, none⟩ = some (.int .i64 p.f) := bg_cell b1 rfl
  have x1 : w2.cell? ⟨W.heap.size, 1, none⟩ = some (.int .i64 p.t) := bg_cell b1 rfl
  have x2 : w2.cell? ⟨W.heap.size, 2, none⟩ = some (.int .i64 p.s) := bg_cell b1 rfl
  have x3 : w2.cell? ⟨W.heap.size, 3, none⟩ = some (.int .i64 p.a) := bg_cell b1 rfl
  have c0 : w2.cell? ⟨g, 0, none⟩ = some (.int .i64 s.me) := bg_cell hg2 rfl
  have c1 : w2.cell? ⟨g, 1, none⟩ = some (.int .i64 s.peer) := bg_cell hg2 rfl
  have c2 : w2.cell? ⟨g, 2, none⟩ = some (.int .i64 (s.sent : Nat)) := bg_cell hg2 rfl
  have HY1 := Lib.hid b1
  have HY2 := Lib.hid b2
  have HB2 := Lib.hid B2
  have HG2 := Lib.hid hg2
  have hszz : (Try.prog.info? 53).map (·.size) = some (lpCells 0 0 0 0 0 0).size := bg_infoP
  have honez : (lpCells 0 0 0 0 0 0).all (·.oneCell') = true := by simp [Value.oneCell']
  obtain ⟨sn, hsn⟩ : ∃ n : Nat, s.sent = n := ⟨_, rfl⟩
  obtain ⟨me, hme⟩ : ∃ n : Int, s.me = n := ⟨_, rfl⟩
  obtain ⟨pr, hpr⟩ : ∃ n : Int, s.peer = n := ⟨_, rfl⟩
  obtain ⟨t0, t1, t2, t3, t4⟩ := hp
  have PA := Lib.hid t4
  rw [hsn] at t4 c2
  rw [hme] at t1 c0
  rw [hpr] at t0 c1
  clear hsn hme hpr
  have d0 : (p.f == pr) = true := by simpa using t0
  have e0 : (p.f != pr) = false := by simpa using t0
  have d1 : (p.t == me) = true := by simpa using t1
  have e1 : (p.t != me) = false := by simpa using t1
  have d2 : decide (p.s < 0) = false := by simpa using t2
  have d3 : decide (p.a < 0) = false := by simpa using t3
  have d4 : decide ((sn : Int) < p.a) = false := by simpa using t4
  obtain ⟨n, hn⟩ : ∃ n, s.out.length = n := ⟨_, rfl⟩
  have hv := h.v
  rw [hn] at hv hlo
  obtain ⟨A, c, rfl⟩ := own_slice hv
  obtain ⟨i0, hi0, hz0, hs0, hb0⟩ := lk_infoO
  have hszO : (Try.prog.info? 83).map (·.size) = some 23 := by rw [hi0]; simp [hs0]
  have H := Lib.hid h
  have HN := Lib.hid hn
  have HSO := Lib.hid hso
  have HV := Lib.hid (lk_below hv B2)
  have hg2l := bg_lt hg2
  have HC : Hid (∀ w', Below w2.heap.size w2 w' → w'.heap[g]? = some (.cells (rlCells s (.slice A n c) K) 30) ∧ w'.cell? ⟨g, 3, none⟩ = some (.slice A n c) ∧ w'.cell? ⟨W.heap.size, 3, none⟩ = some (.int .i64 p.a)) := fun w' hb => by
    have e := (hb.block g hg2l).trans hg2
    have e1 := (hb.block W.heap.size (bg_lt b1)).trans b1
    exact ⟨e, bg_cell e rfl, bg_cell e1 rfl⟩
  clear h b1 b2 B2 hg2 hn hv hso t0 t1 t2 t3 t4 hg2l
  go_enter Try.func18, Try.ntmps18
  go_upto_region 1 with fail
  clear hw2
  go_quiet (fail)
  obtain ⟨wq, hwq⟩ : ∃ wq, w2.drewN nq = wq := ⟨_, rfl⟩
  have HBQ : Hid (Below w2.heap.size w2 wq) := by rw [← hwq]; exact below_drewN (Below.refl _ _) _
  rw [hwq]
  clear hwq x0 x1 x2 x3 c0 c1 c2 d0 d1 d2 d3 d4 e0 e1
  go_wp2
  go_loopg [7, 8] (n + 1) (fun gh s7 s8 wx => ∃ (i m : Nat) (B : Option Addr) (cB : Nat) (fs : List (Nat × Nat × LR)), i + gh = n + 1 ∧ i ≤ n ∧ m ≤ i ∧ s7 = .slice B m cB ∧ s8 = .int .i64 (i : Nat) ∧ Hid (fs = filt p.a (s.out.take i)) ∧ Hid (wx.ownsRow w2.heap.size 83 23 (.slice B m cB) m (rowC oE fs)) ∧ Hid (fs.length = m) ∧ Hid (Below w2.heap.size w2 wx))
  case atStart => exact ⟨0, 0, none, 0, [], by omega, by omega, by omega, rfl, rfl, by simp [Hid, filt], World.ownsRow_nil _ _ _ _, rfl, HBQ⟩
  case round =>
    obtain ⟨i, m, B, cB, fs, hig, hi, hmi, rfl, rfl, HFS, HO, HM, HB⟩ := hrel
    obtain ⟨g9, v3, x3⟩ := HC.out _ HB.out
    by_cases hlt : i < n
    · have ii : (i : Int) < (n : Int) := by omega
      obtain ⟨x, hx⟩ : ∃ x, s.out[i]? = some x := ⟨s.out[i]'(by rw [HN.out]; exact hlt), List.getElem?_eq_getElem _⟩
      obtain ⟨b, rfl⟩ := lk_at HV.out (by omega)
      have hxs := HSO.out x (List.mem_of_getElem? hx)
      have hft := filt_take (a := p.a) hx
      have HRW : Hid (∀ w', Below w2.heap.size w2 w' → w'.rangeAt b (i * 23) (oE x).toList) := fun w' hb => row_rangeE oE_size (lk_below HV.out hb) hx
      have v0 : wr.cell? ⟨b, i * 23, none⟩ = some (.int .i64 (x.1 : Nat)) := by have := HRW.out _ HB.out 0 _ rfl; simpa using this
      have HXS : Hid ((oE x).all (·.oneCell') = true) := oE_one hxs
      have hszx : (Try.prog.info? 83).map (·.size) = some (oE x).toList.length := hszO
      by_cases hpx : p.a < (x.1 : Nat)
      · have hft2 : Hid (filt p.a (s.out.take (i + 1)) = fs ++ [x]) := by rw [hft, if_pos hpx, ← HFS.out]; exact rfl
        have dd : decide (p.a < (x.1 : Int)) = true := decide_eq_true hpx
        clear hx hxs hft hpx
        go_upto_region 7 with fail
        go_quiet (fail)
        obtain ⟨w3, hw3⟩ : ∃ w3, wr.drewN nq = w3 := ⟨_, rfl⟩
        have HB3 : Hid (Below w2.heap.size w2 w3) := by rw [← hw3]; exact below_drewN HB.out _
        have HO3 : Hid (w3.ownsRow w2.heap.size 83 23 (.slice B m cB) m (rowC oE fs)) := by rw [← hw3]; exact HO.out
        rw [hw3]
        clear hw3 g9 v3 x3 v0 dd
        obtain ⟨g9, v3, x3⟩ := HC.out _ HB3.out
        have HRA := Lib.hid (HRW.out _ HB3.out)
        go_wp2_with (first
          | (refine wpList_load_mid rfl 83 (.tmp 73) rfl b (i * 23) rfl (oE x).toList _ HRA.out Try.underlying83 rfl hszx ?_)
          | (at_builtin; go_must (refine wpList_append_any rfl (.tmp 67) (.tmp 75) 27 rfl w2.heap.size 83 i0 (.agg lk_zo) 23 256 Try.underlying27 hi0 hz0 hs0 hb0 rfl (by decide) (.slice B m cB) m (rowC oE fs) rfl (HO3.out.alloc _) (.slice (some ⟨w3.heap.size, 0, none⟩) 1 1) 1 (rowC oE [x]) rfl (.inr ⟨⟨w3.heap.size, 0, none⟩, 1, rfl, rfl, lk_new_row w3 (oE x) _⟩) (rowC_all (enc := oE) (l := [x]) (fun y hy => by simp at hy; subst hy; exact HXS.out)) (by unfold maxLen; omega) (by omega) (by have := HB3.out.size; simp; omega) ?_); intro A5 c5 w5 ho5 hg5 hs5; have HO5 := Lib.hid ho5; have HB5 := Lib.hid ((HB3.out.alloc HB3.out.size _).grown hg5 (by have := HB3.out.size; simp; omega) (fun z hz => (HO3.out.lt z hz).1)); clear ho5 hg5 hs5))
        go_roundg (gk - 1)
        case measure => omega
        case rel =>
          refine ⟨i + 1, m + 1, A5, c5, fs ++ [x], by omega, by omega, by omega, rfl, by go_num, hft2.out.symm, ?_, ?_, HB5⟩
          · have h5 := HO5.out
            rw [← rowC_append] at h5
            exact h5
          · show (fs ++ [x]).length = m + 1
            rw [List.length_append, HM.out]; rfl
      · have hft2 : Hid (filt p.a (s.out.take (i + 1)) = fs) := by rw [hft, if_neg hpx, ← HFS.out, List.append_nil]; exact rfl
        have dd : decide (p.a < (x.1 : Int)) = false := decide_eq_false hpx
        clear hx hxs hft hpx
        go_upto_region 7 with fail
        go_quiet (fail)
        obtain ⟨w3, hw3⟩ : ∃ w3, wr.drewN nq = w3 := ⟨_, rfl⟩
        have HB3 : Hid (Below w2.heap.size w2 w3) := by rw [← hw3]; exact below_drewN HB.out _
        have HO3 : Hid (w3.ownsRow w2.heap.size 83 23 (.slice B m cB) m (rowC oE fs)) := by rw [← hw3]; exact HO.out
        rw [hw3]
        clear hw3 dd
        go_wp2_with fail
        go_roundg (gk - 1)
        case measure => omega
        case rel => exact ⟨i + 1, m, B, cB, fs, by omega, by omega, by omega, rfl, by go_num, hft2.out.symm, HO3.out, HM, HB3⟩
    · obtain rfl : n = i := by omega
      have f3 : wr.frozen? ⟨g, 3, none⟩ = false := Lib.frozen_of_heap g9 3
      have hfs : fs = filt p.a s.out := by rw [HFS.out, List.take_of_length_le (by rw [HN.out]; exact Nat.le_refl _)]
      have hgv : ∀ q, (Value.slice B m cB).ownBlock = some q → q ≠ g := fun q hq z => by have := (HO.out.lt q hq).1; have := bg_lt HG2.out; omega
      go_upto_region 10 with fail
      obtain ⟨w4, hw4⟩ : ∃ w4, wr.setCell ⟨g, 3, none⟩ (.slice B m cB) = w4 := ⟨_, rfl⟩
      rw [hw4]
      have T4 : Touch [g] wr w4 := by rw [← hw4]; exact (Touch.refl _ _).set (.inl (by simp)) _
      have y1 := (T4.block W.heap.size (Nat.lt_of_lt_of_le (bg_lt HY1.out) HB.out.size) (by simp; omega)).trans ((HB.out.block _ (bg_lt HY1.out)).trans HY1.out)
      have y2 := (T4.block (W.heap.size + 1) (Nat.lt_of_lt_of_le (bg_lt HY2.out) HB.out.size) (by simp; omega)).trans ((HB.out.block _ (bg_lt HY2.out)).trans HY2.out)
      have hx4 : RLX w4 g (s.known p.a) (.slice B m cB) K := by
        refine ⟨?_, ?_, ?_, hgv, H.out.gk, fun q hq z => ?_⟩
        · rw [← hw4]
          simp [World.setCell, Array.getElem?_modify, g9]
        · have h5 := T4.row HO.out (fun q hq z => by have := hgv q hq; simp at z; exact this z)
          show w4.ownsRow 0 _ 23 (.slice B m cB) (filt p.a s.out).length (rowC oE (filt p.a s.out))
          rw [← hfs, HM.out]
          exact lk_base h5 (Nat.zero_le _)
        · exact T4.row (lk_below H.out.k (acc HB2.out HB.out)) (fun q hq z => by have := H.out.gk q hq; simp at z; exact this z)
        · have := (HO.out.lt q hq).1; have := (H.out.k.lt q z).2; have := HB2.out.size; omega
      have hT : Touch [g] W w4 := (Touch.ofBelow (F := [g]) (acc HB2.out HB.out)).trans T4 (fun x hx => .inl hx)
      have HX4 := Lib.hid hx4
      have HT4 := Lib.hid hT
      have HF4 : Hid (∀ q, (Value.slice B m cB).ownBlock = some q → W.heap.size ≤ q) := fun q hq => by have := (HO.out.lt q hq).1; have := HB2.out.size; omega
      have HZ1 := Lib.hid y1
      have HZ2 := Lib.hid y2
      have x2 : w4.cell? ⟨W.heap.size, 2, none⟩ = some (.int .i64 p.s) := bg_cell y1 rfl
      clear hw4 T4 hx4 hT y1 y2 f3 hfs hgv g9 v3 x3
      have dq : (p.s == 0) = true := by simpa using hq0
      clear hq0
      go_wp2_with (first
        | (with_reducible (show wpList _ _ _ (⟨none, Op.store _ (Operand.tmp 5) _, _, _, _, _⟩ :: _) _ _); go_must (refine wpList_store_row rfl 53 (.tmp 5) (.tmp 84) rfl (W.heap.size + 1) (lpCells 0 0 0 0 0 0) rfl rfl 53 (lpCells 0 0 0 0 0 0) HZ2.out hszz rfl honez ?_)))
      refine bodyPost_ret (bg_results3 rfl _ _ (W.heap.size + 1) (lpCells 0 0 0 0 0 0) (.bool true) (.slice none 0 0) rfl rfl rfl (bg_loadVar _ _ _ rfl (bg_row _ HZ2.out))) rfl ?_
      have T7 := bg_touch w4 (W.heap.size + 1) (lpCells 0 0 0 0 0 0)
      refine ⟨rfl, HT4.out.trans T7 (fun x hx => .inr (by simp at hx; omega)), _, _, HX4.out.touch T7 (fun q hq z => ?_), fun q hq => ?_⟩
      · simp at z
        subst z
        rcases mem_fr.1 hq with e | e | e
        · omega
        · exact by have := (HO.out.lt _ e).1; have := bg_lt HY2.out; omega
        · have := (H.out.k.lt _ e).2; omega
      · rcases mem_fr.1 hq with e | e | e
        · exact .inl (mem_fr.2 (.inl e))
        · exact .inr (HF4.out q e)
        · exact .inl (mem_fr.2 (.inr (.inr e)))
end Go.Proofs.Ytfemdfidfomchaa
namespace Go.Proofs.Ytfemdfidfomchaa
open Go.RowKit

set_option maxRecDepth 20000 in
set_option maxHeartbeats 4000000 in
theorem refGotNot_any {W : World} {g : Nat} {s : RL} {V K : Value} (h : RLX W g s V K) (p : PR) (hp : ¬ s.takes p) :
    Calls Try.prog 18 #[.pointer (some ⟨g, 0, none⟩), .agg p.cells] W fun e w' => e = .returned (.tuple #[.slice none 0 0, .agg (lpCells 0 0 0 0 0 0), .bool false]) ∧ Below W.heap.size W w' := by
  have B2 : Below W.heap.size W ((W.alloc (.cells p.cells 53)).alloc (.cells (lpCells 0 0 0 0 0 0) 53)) := ((Below.refl _ _).alloc (Nat.le_refl _) _).alloc (by simp) _
  have b1 : ((W.alloc (.cells p.cells 53)).alloc (.cells (lpCells 0 0 0 0 0 0) 53)).heap[W.heap.size]? = some (.cells p.cells 53) := (Lib.alloc_old _ _ _ (by simp)).trans (heap_alloc_new W _)
  have b2 : ((W.alloc (.cells p.cells 53)).alloc (.cells (lpCells 0 0 0 0 0 0) 53)).heap[W.heap.size + 1]? = some (.cells (lpCells 0 0 0 0 0 0) 53) := by
    have := heap_alloc_new (W.alloc (.cells p.cells 53)) (.cells (lpCells 0 0 0 0 0 0) 53)
    simpa using this
  have hgl : g < W.heap.size := bg_lt h.hg
  obtain ⟨w2, hw2⟩ : ∃ w2, (W.alloc (.cells p.cells 53)).alloc (.cells (lpCells 0 0 0 0 0 0) 53) = w2 := ⟨_, rfl⟩
  rw [hw2] at B2 b1 b2
  have hg2 := (B2.block g hgl).trans h.hg
  have x0 : w2.cell? ⟨W.heap.size, 0, none⟩ = some (.int .i64 p.f) := bg_cell b1 rfl
  have x1 : w2.cell? ⟨W.heap.size, 1, none⟩ = some (.int .i64 p.t) := bg_cell b1 rfl
  have x2 : w2.cell? ⟨W.heap.size, 2, none⟩ = some (.int .i64 p.s) := bg_cell b1 rfl
  have x3 : w2.cell? ⟨W.heap.size, 3, none⟩ = some (.int .i64 p.a) := bg_cell b1 rfl
  have c0 : w2.cell? ⟨g, 0, none⟩ = some (.int .i64 s.me) := bg_cell hg2 rfl
  have c1 : w2.cell? ⟨g, 1, none⟩ = some (.int .i64 s.peer) := bg_cell hg2 rfl
  have c2 : w2.cell? ⟨g, 2, none⟩ = some (.int .i64 (s.sent : Nat)) := bg_cell hg2 rfl
  have HY1 := Lib.hid b1
  have HY2 := Lib.hid b2
  have HB2 := Lib.hid B2
  have HG2 := Lib.hid hg2
  have hszz : (Try.prog.info? 53).map (·.size) = some (lpCells 0 0 0 0 0 0).size := bg_infoP
  have honez : (lpCells 0 0 0 0 0 0).all (·.oneCell') = true := by simp [Value.oneCell']
  unfold RL.takes at hp
  obtain ⟨sn, hsn⟩ : ∃ n : Nat, s.sent = n := ⟨_, rfl⟩
  obtain ⟨me, hme⟩ : ∃ n : Int, s.me = n := ⟨_, rfl⟩
  obtain ⟨pr, hpr⟩ : ∃ n : Int, s.peer = n := ⟨_, rfl⟩
  rw [hsn, hme, hpr] at hp
  rw [hsn] at c2
  rw [hme] at c0
  rw [hpr] at c1
  clear hsn hme hpr h b1 b2 B2 hg2
  by_cases t0 : p.f = pr
  · by_cases t1 : p.t = me
    · by_cases t2 : 0 ≤ p.s
      · by_cases t3 : 0 ≤ p.a
        · by_cases t4 : p.a ≤ (sn : Nat)
          · exact absurd ⟨t0, t1, t2, t3, t4⟩ hp
          · have d0 : (p.f == pr) = true := by simpa using t0
            have e0 : (p.f != pr) = false := by simpa using t0
            have d1 : (p.t == me) = true := by simpa using t1
            have e1 : (p.t != me) = false := by simpa using t1
            have d2 : decide (p.s < 0) = false := by simpa using t2
            have d3 : decide (p.a < 0) = false := by simpa using t3
            have d4 : decide ((sn : Int) < p.a) = true := by simpa using t4
            clear t0 t1 t2 t3 t4
            clear hp
            go_enter Try.func18, Try.ntmps18
            go_upto_region 1 with fail
            clear hw2
            go_quiet (fail)
            obtain ⟨w3, hw3⟩ : ∃ w3, w2.drewN nq = w3 := ⟨_, rfl⟩
            have HB3 : Hid (Below W.heap.size W w3) := by rw [← hw3]; exact below_drewN HB2.out _
            have y3 : w3.heap[W.heap.size + 1]? = some (.cells (lpCells 0 0 0 0 0 0) 53) := by rw [← hw3]; exact HY2.out
            rw [hw3]
            clear hw3
            go_wp2_with (first
              | (with_reducible (show wpList _ _ _ (⟨none, Op.store _ (Operand.tmp 5) _, _, _, _, _⟩ :: _) _ _); go_must (refine wpList_store_row rfl 53 (.tmp 5) (.tmp 46) rfl (W.heap.size + 1) (lpCells 0 0 0 0 0 0) rfl rfl 53 (lpCells 0 0 0 0 0 0) y3 hszz rfl honez ?_)))
            refine bodyPost_ret (bg_results3 rfl _ _ (W.heap.size + 1) (lpCells 0 0 0 0 0 0) (.bool false) (.slice none 0 0) rfl rfl rfl (bg_loadVar _ _ _ rfl (bg_row _ y3))) rfl ?_
            exact ⟨rfl, HB3.out.trans (bg_below _ (by omega))⟩
        · have d0 : (p.f == pr) = true := by simpa using t0
          have e0 : (p.f != pr) = false := by simpa using t0
          have d1 : (p.t == me) = true := by simpa using t1
          have e1 : (p.t != me) = false := by simpa using t1
          have d2 : decide (p.s < 0) = false := by simpa using t2
          have d3 : decide (p.a < 0) = true := by simpa using t3
          clear t0 t1 t2 t3
          clear hp
          go_enter Try.func18, Try.ntmps18
          go_upto_region 1 with fail
          clear hw2
          go_quiet (fail)
          obtain ⟨w3, hw3⟩ : ∃ w3, w2.drewN nq = w3 := ⟨_, rfl⟩
          have HB3 : Hid (Below W.heap.size W w3) := by rw [← hw3]; exact below_drewN HB2.out _
          have y3 : w3.heap[W.heap.size + 1]? = some (.cells (lpCells 0 0 0 0 0 0) 53) := by rw [← hw3]; exact HY2.out
          rw [hw3]
          clear hw3
          go_wp2_with (first
            | (with_reducible (show wpList _ _ _ (⟨none, Op.store _ (Operand.tmp 5) _, _, _, _, _⟩ :: _) _ _); go_must (refine wpList_store_row rfl 53 (.tmp 5) (.tmp 46) rfl (W.heap.size + 1) (lpCells 0 0 0 0 0 0) rfl rfl 53 (lpCells 0 0 0 0 0 0) y3 hszz rfl honez ?_)))
          refine bodyPost_ret (bg_results3 rfl _ _ (W.heap.size + 1) (lpCells 0 0 0 0 0 0) (.bool false) (.slice none 0 0) rfl rfl rfl (bg_loadVar _ _ _ rfl (bg_row _ y3))) rfl ?_
          exact ⟨rfl, HB3.out.trans (bg_below _ (by omega))⟩
      · have d0 : (p.f == pr) = true := by simpa using t0
        have e0 : (p.f != pr) = false := by simpa using t0
        have d1 : (p.t == me) = true := by simpa using t1
        have e1 : (p.t != me) = false := by simpa using t1
        have d2 : decide (p.s < 0) = true := by simpa using t2
        clear t0 t1 t2
        clear hp
        go_enter Try.func18, Try.ntmps18
        go_upto_region 1 with fail
        clear hw2
        go_quiet (fail)
        obtain ⟨w3, hw3⟩ : ∃ w3, w2.drewN nq = w3 := ⟨_, rfl⟩
        have HB3 : Hid (Below W.heap.size W w3) := by rw [← hw3]; exact below_drewN HB2.out _
        have y3 : w3.heap[W.heap.size + 1]? = some (.cells (lpCells 0 0 0 0 0 0) 53) := by rw [← hw3]; exact HY2.out
        rw [hw3]
        clear hw3
        go_wp2_with (first
          | (with_reducible (show wpList _ _ _ (⟨none, Op.store _ (Operand.tmp 5) _, _, _, _, _⟩ :: _) _ _); go_must (refine wpList_store_row rfl 53 (.tmp 5) (.tmp 46) rfl (W.heap.size + 1) (lpCells 0 0 0 0 0 0) rfl rfl 53 (lpCells 0 0 0 0 0 0) y3 hszz rfl honez ?_)))
        refine bodyPost_ret (bg_results3 rfl _ _ (W.heap.size + 1) (lpCells 0 0 0 0 0 0) (.bool false) (.slice none 0 0) rfl rfl rfl (bg_loadVar _ _ _ rfl (bg_row _ y3))) rfl ?_
        exact ⟨rfl, HB3.out.trans (bg_below _ (by omega))⟩
    · have d0 : (p.f == pr) = true := by simpa using t0
      have e0 : (p.f != pr) = false := by simpa using t0
      have d1 : (p.t == me) = false := by simpa using t1
      have e1 : (p.t != me) = true := by simpa using t1
      clear t0 t1
      clear hp
      go_enter Try.func18, Try.ntmps18
      go_upto_region 1 with fail
      clear hw2
      go_quiet (fail)
      obtain ⟨w3, hw3⟩ : ∃ w3, w2.drewN nq = w3 := ⟨_, rfl⟩
      have HB3 : Hid (Below W.heap.size W w3) := by rw [← hw3]; exact below_drewN HB2.out _
      have y3 : w3.heap[W.heap.size + 1]? = some (.cells (lpCells 0 0 0 0 0 0) 53) := by rw [← hw3]; exact HY2.out
      rw [hw3]
      clear hw3
      go_wp2_with (first
        | (with_reducible (show wpList _ _ _ (⟨none, Op.store _ (Operand.tmp 5) _, _, _, _, _⟩ :: _) _ _); go_must (refine wpList_store_row rfl 53 (.tmp 5) (.tmp 46) rfl (W.heap.size + 1) (lpCells 0 0 0 0 0 0) rfl rfl 53 (lpCells 0 0 0 0 0 0) y3 hszz rfl honez ?_)))
      refine bodyPost_ret (bg_results3 rfl _ _ (W.heap.size + 1) (lpCells 0 0 0 0 0 0) (.bool false) (.slice none 0 0) rfl rfl rfl (bg_loadVar _ _ _ rfl (bg_row _ y3))) rfl ?_
      exact ⟨rfl, HB3.out.trans (bg_below _ (by omega))⟩
  · have d0 : (p.f == pr) = false := by simpa using t0
    have e0 : (p.f != pr) = true := by simpa using t0
    clear t0
    clear hp
    go_enter Try.func18, Try.ntmps18
    go_upto_region 1 with fail
    clear hw2
    go_quiet (fail)
    obtain ⟨w3, hw3⟩ : ∃ w3, w2.drewN nq = w3 := ⟨_, rfl⟩
    have HB3 : Hid (Below W.heap.size W w3) := by rw [← hw3]; exact below_drewN HB2.out _
    have y3 : w3.heap[W.heap.size + 1]? = some (.cells (lpCells 0 0 0 0 0 0) 53) := by rw [← hw3]; exact HY2.out
    rw [hw3]
    clear hw3
    go_wp2_with (first
      | (with_reducible (show wpList _ _ _ (⟨none, Op.store _ (Operand.tmp 5) _, _, _, _, _⟩ :: _) _ _); go_must (refine wpList_store_row rfl 53 (.tmp 5) (.tmp 46) rfl (W.heap.size + 1) (lpCells 0 0 0 0 0 0) rfl rfl 53 (lpCells 0 0 0 0 0 0) y3 hszz rfl honez ?_)))
    refine bodyPost_ret (bg_results3 rfl _ _ (W.heap.size + 1) (lpCells 0 0 0 0 0 0) (.bool false) (.slice none 0 0) rfl rfl rfl (bg_loadVar _ _ _ rfl (bg_row _ y3))) rfl ?_
    exact ⟨rfl, HB3.out.trans (bg_below _ (by omega))⟩
end Go.Proofs.Ytfemdfidfomchaa
namespace Go.Proofs.Ytfemdfidfomchaa
open Go.RowKit

def updO (l : List (Nat × Nat × LR)) (t i : Nat) : List (Nat × Nat × LR) := (l.take i).map (fun x => (x.1, t, x.2.2)) ++ l.drop i
theorem updO_zero (l : List (Nat × Nat × LR)) (t : Nat) : updO l t 0 = l := by simp [updO]
theorem updO_all (l : List (Nat × Nat × LR)) (t : Nat) : updO l t l.length = l.map fun x => (x.1, t, x.2.2) := by simp [updO]
theorem updO_length (l : List (Nat × Nat × LR)) (t i : Nat) : (updO l t i).length = l.length := by
  simp only [updO, List.length_append, List.length_map, List.length_take, List.length_drop]; omega
theorem updO_at {l : List (Nat × Nat × LR)} {t i : Nat} {x : Nat × Nat × LR} (h : l[i]? = some x) : (updO l t i)[i]? = some x := by
  have hl := (List.getElem?_eq_some_iff.1 h).1
  rw [updO, List.getElem?_append_right (by simp; omega)]
  simp only [List.length_map, List.length_take, List.getElem?_drop]
  rw [← h]
  congr 1
  omega
theorem updO_succ {l : List (Nat × Nat × LR)} {t i : Nat} {x : Nat × Nat × LR} (h : l[i]? = some x) : updO l t (i + 1) = (updO l t i).set i (x.1, t, x.2.2) := by
  have hl := (List.getElem?_eq_some_iff.1 h).1
  have hx := (List.getElem?_eq_some_iff.1 h).2
  rw [updO, updO, List.set_append_right _ _ (by simp; omega)]
  have e1 : i - ((l.take i).map fun x => (x.1, t, x.2.2)).length = 0 := by simp; omega
  have e2 : l.drop i = x :: l.drop (i + 1) := by rw [List.drop_eq_getElem_cons hl, hx]
  rw [e1, e2, List.take_add_one, h]
  simp
theorem updO_at2 {l : List (Nat × Nat × LR)} {t i : Nat} {x : Nat × Nat × LR} (h : l[i]? = some x) : (updO l t (i + 1))[i]? = some (x.1, t, x.2.2) := by
  have hl := (List.getElem?_eq_some_iff.1 h).1
  rw [updO_succ h, List.getElem?_set_self (by rw [updO_length]; exact hl)]
/-- the packets that go again -/
def rps (s : RL) (l : List (Nat × Nat × LR)) : List PR := l.map fun x => ⟨s.me, s.peer, (x.1 : Nat), (s.came : Nat), x.2.2⟩
/-- what the document's Tick has done so far: the ticks of the first j are new, the first i packets are told -/
structure RTk (W w : World) (g : Nat) (s : RL) (K : Value) (A : Option Addr) (c n j i : Nat) (T : Option Addr) (cT : Nat) : Prop where
  x : RLX w g {s with now := s.now + 1, out := updO s.out (s.now + 1) j} (.slice A n c) K
  ln : s.out.length = n
  nf : ∀ q, (Value.slice A n c).ownBlock = some q → W.heap.size ≤ q
  t : Touch [g] W w
  row : w.ownsRow W.heap.size 53 25 (.slice T i cT) i (rowC PR.cells (rps s (s.out.take i)))
  dj : ∀ q, (Value.slice T i cT).ownBlock = some q → q ≠ g ∧ (Value.slice A n c).ownBlock ≠ some q ∧ K.ownBlock ≠ some q
section
variable {W w w1 : World} {g : Nat} {s : RL} {K : Value} {A : Option Addr} {c n i : Nat} {T : Option Addr} {cT : Nat}
theorem RTk.vrow {j : Nat} (h : RTk W w g s K A c n j i T cT) : w.ownsRow 0 83 23 (.slice A n c) n (rowC oE (updO s.out (s.now + 1) j)) := by
  have h5 := h.x.v
  have h6 : (updO s.out (s.now + 1) j).length = n := by rw [updO_length]; exact h.ln
  have h7 : w.ownsRow 0 83 23 (.slice A n c) (updO s.out (s.now + 1) j).length (rowC oE (updO s.out (s.now + 1) j)) := h5
  rw [h6] at h7
  exact h7
theorem RTk.step {b : Nat} {x : Nat × Nat × LR} (h : RTk W w g s K (some ⟨b, 0, none⟩) c n i i T cT) (hx : s.out[i]? = some x) : RTk W (w.drew.setCell ⟨b, i * 23 + 1, none⟩ (.int .i64 ((s.now : Int) + 1))) g s K (some ⟨b, 0, none⟩) c n (i + 1) i T cT := by
  have t1 : Touch [b] w (w.drew.setCell ⟨b, i * 23 + 1, none⟩ (.int .i64 ((s.now : Int) + 1))) := ((Touch.refl _ w).drew).set (.inl (by simp)) _
  have hb := h.nf b rfl
  have hr := (h.vrow.drew.stored (i * 23 + 1) (.int .i64 ((s.now : Int) + 1))).1
  have e1 := rowC_set oE_size (updO s.out (s.now + 1) i) i 1 x (x.1, s.now + 1, x.2.2) (.int .i64 ((s.now : Int) + 1)) (updO_at hx) (by decide) rfl
  rw [e1, ← updO_succ hx] at hr
  have hgb : g ≠ b := fun e => h.x.gv b rfl e.symm
  refine ⟨⟨(t1.block g (bg_lt h.x.hg) (by simp; exact hgb)).trans h.x.hg, ?_, t1.row h.x.k (fun q hq z => by simp at z; subst z; exact h.x.vk q rfl hq), h.x.gv, h.x.gk, h.x.vk⟩, h.ln, h.nf, h.t.trans t1 (fun q hq => .inr (by simp at hq; omega)), t1.row h.row (fun q hq z => by simp at z; subst z; exact (h.dj q hq).2.1 rfl), h.dj⟩
  show World.ownsRow _ 0 _ 23 _ (updO s.out (s.now + 1) (i + 1)).length _
  rw [updO_length, h.ln]
  exact hr
theorem RTk.cells {b : Nat} {x : Nat × Nat × LR} (h : RTk W w g s K (some ⟨b, 0, none⟩) c n (i + 1) i T cT) (hx : s.out[i]? = some x) {w' : World} (ht : Touch (Value.slice T i cT).ownBlock.toList w w') :
    w'.cell? ⟨g, 0, none⟩ = some (.int .i64 s.me) ∧ w'.cell? ⟨g, 1, none⟩ = some (.int .i64 s.peer) ∧ w'.cell? ⟨g, 3, none⟩ = some (.slice (some ⟨b, 0, none⟩) n c) ∧ w'.cell? ⟨g, 4, none⟩ = some (.int .i64 (s.came : Nat)) ∧ w'.cell? ⟨b, i * 23, none⟩ = some (.int .i64 (x.1 : Nat)) ∧ w'.rangeAt b (i * 23 + 2) x.2.2.cells.toList := by
  have hg : w'.heap[g]? = _ := (ht.block g (bg_lt h.x.hg) (fun z => (h.dj g (by simpa using z)).1 rfl)).trans h.x.hg
  have hrow := ht.row h.vrow (fun q hq z => (h.dj q (by simpa using z)).2.1 hq)
  have hra := row_rangeE oE_size hrow (updO_at2 (t := s.now + 1) hx)
  refine ⟨bg_cell hg rfl, bg_cell hg rfl, bg_cell hg rfl, bg_cell hg rfl, ?_, mid_range hra (oE_letter (x.1, s.now + 1, x.2.2))⟩
  have := hra 0 _ rfl
  simpa using this
theorem RTk.more {x : Nat × Nat × LR} {T7 : Option Addr} {c7 : Nat} (h : RTk W w g s K A c n (i + 1) i T cT) (hx : s.out[i]? = some x) (ht : Touch (Value.slice T i cT).ownBlock.toList w w1)
    (ho : w1.ownsRow W.heap.size 53 25 (.slice T7 (i + 1) c7) (i + 1) (rowC PR.cells (rps s (s.out.take i)) ++ rowC PR.cells [PR.mk s.me s.peer (x.1 : Nat) (s.came : Nat) x.2.2])) (hs : SameOrNew w (.slice T i cT) (.slice T7 (i + 1) c7)) : RTk W w1 g s K A c n (i + 1) (i + 1) T7 c7 := by
  obtain ⟨hl, hv⟩ := List.getElem?_eq_some_iff.1 hx
  refine ⟨h.x.touch ht (fun q hq z => ?_), h.ln, h.nf, h.t.trans ht (fun q hq => .inr ((h.row.lt q (by simpa using hq)).1)), ?_, fun q hq => ?_⟩
  · have h9 := h.dj q (by simpa using z)
    rcases mem_fr.1 hq with e | e | e
    · exact h9.1 e
    · exact h9.2.1 e
    · exact h9.2.2 e
  · rw [← rowC_append] at ho
    rw [List.take_succ_eq_append_getElem hl, hv, rps, List.map_append]
    exact ho
  · rcases hs q hq with z | z
    · exact h.dj q z
    · have l1 := h.x.flt
      refine ⟨fun y => ?_, fun y => ?_, fun y => ?_⟩
      · have := l1 g (by simp [fr]); omega
      · have := l1 q (mem_fr.2 (.inr (.inl y))); omega
      · have := l1 q (mem_fr.2 (.inr (.inr y))); omega
end
theorem RLX.setNow {W : World} {g : Nat} {s : RL} {V K : Value} (h : RLX W g s V K) (n : Nat) : RLX (W.setCell ⟨g, 6, none⟩ (.int .i64 (n : Nat))) g {s with now := n} V K := by
  have t : Touch [g] W (W.setCell ⟨g, 6, none⟩ (.int .i64 (n : Nat))) := (Touch.refl _ _).set (.inl (by simp)) _
  have e := h.hg
  exact ⟨by simp [World.setCell, Array.getElem?_modify, e], t.row h.v (fun q hq z => by have := h.gv q hq; simp at z; exact this z), t.row h.k (fun q hq z => by have := h.gk q hq; simp at z; exact this z), h.gv, h.gk, h.vk⟩
set_option maxRecDepth 20000 in
set_option maxHeartbeats 4000000 in
theorem refTickNot_any {W : World} {g : Nat} {s : RL} {V K : Value} (h : RLX W g s V K) (hnow : s.now ≤ 1000000) (hat : ∀ x ∈ s.out, x.2.1 ≤ 1000000) (hlo : s.out.length ≤ 1000000) (hd : s.due = false) :
    Calls Try.prog 16 #[.pointer (some ⟨g, 0, none⟩)] W fun e w' => e = .returned (.slice none 0 0) ∧ RLX w' g {s with now := s.now + 1} V K ∧ Touch [g] W w' := by
  have hz : IntKind.i64.wrap ((s.now : Int) + 1) = (s.now : Int) + 1 := by rw [IntKind.wrap_i64]; omega
  have c6 : W.cell? ⟨g, 6, none⟩ = some (.int .i64 (s.now : Nat)) := bg_cell h.hg rfl
  have f6 : W.frozen? ⟨g, 6, none⟩ = false := Lib.frozen_of_heap h.hg 6
  have h1 : RLX (W.setCell ⟨g, 6, none⟩ (.int .i64 ((s.now : Int) + 1))) g {s with now := s.now + 1} V K := h.setNow (s.now + 1)
  have T1 : Touch [g] W (W.setCell ⟨g, 6, none⟩ (.int .i64 ((s.now : Int) + 1))) := (Touch.refl _ _).set (.inl (by simp)) _
  obtain ⟨w1, hw1⟩ : ∃ w1, W.setCell ⟨g, 6, none⟩ (.int .i64 ((s.now : Int) + 1)) = w1 := ⟨_, rfl⟩
  rw [hw1] at h1 T1
  obtain ⟨n, hn⟩ : ∃ n, s.out.length = n := ⟨_, rfl⟩
  have hv := h.v
  rw [hn] at hv hlo
  obtain ⟨A, c, hVs⟩ := own_slice hv
  rw [hVs] at hv
  have e1 := h1.hg
  rw [hVs] at e1
  have c3 : w1.cell? ⟨g, 3, none⟩ = some (.slice A n c) := bg_cell e1 rfl
  have c6 : w1.cell? ⟨g, 6, none⟩ = some (.int .i64 ((s.now : Int) + 1)) := bg_cell e1 rfl
  have H1 := Lib.hid h1
  have HT1 := Lib.hid T1
  by_cases h0 : s.out = []
  · have hn0 : n = 0 := by rw [← hn, h0]; rfl
    subst hn0
    clear h h1 T1 hv hn e1
    go_enter Try.func16, Try.ntmps16
    go_upto_region 2 with fail
    clear hw1
    go_quiet (fail)
    go_wp2
    go_ret
    exact ⟨rfl, H1.out.below (below_drewN (Below.refl _ _) _), HT1.out.trans (Touch.ofBelow (F := []) (below_drewN (Below.refl _ _) _)) (by simp)⟩
  · obtain ⟨x, xs, hxs⟩ : ∃ x xs, s.out = x :: xs := by
      cases hx : s.out with
      | nil => exact absurd hx h0
      | cons x xs => exact ⟨x, xs, rfl⟩
    have hd1 : ¬ (4 ≤ (s.now : Int) + 1 - (x.2.1 : Nat)) := by
      unfold RL.due at hd
      rw [hxs] at hd
      simpa using hd
    have hx2 : x.2.1 ≤ 1000000 := hat x (by rw [hxs]; simp)
    have hnz : n ≠ 0 := by rw [← hn, hxs]; simp
    obtain ⟨b, rfl⟩ := lk_at hv (by omega)
    have va : w1.cell? ⟨b, 1, none⟩ = some (.int .i64 (x.2.1 : Nat)) := by
      have := row_rangeE oE_size (T1.row hv (fun q hq z => by have := h.gv q (by rw [hVs]; exact hq); simp at z; exact this z)) (i := 0) (x := x) (by rw [hxs]; rfl) 1 _ rfl
      simpa using this
    have dn : ((n : Int) == 0) = false := by simpa using hnz
    have hw2 : IntKind.i64.wrap ((s.now : Int) + 1 - (x.2.1 : Int)) = (s.now : Int) + 1 - (x.2.1 : Int) := by rw [IntKind.wrap_i64]; omega
    have dd : decide ((s.now : Int) + 1 - (x.2.1 : Int) < 4) = true := by simp; omega
    clear h h1 T1 hv hn h0 hd1 hx2 hxs hd hat e1
    go_enter Try.func16, Try.ntmps16
    go_upto_region 2 with fail
    clear hw1
    go_quiet (fail)
    go_wp2
    go_ret
    exact ⟨rfl, H1.out.below (below_drewN (Below.refl _ _) _), HT1.out.trans (Touch.ofBelow (F := []) (below_drewN (Below.refl _ _) _)) (by simp)⟩
def RTickPost (W : World) (g : Nat) (s : RL) (V K : Value) (e : Ending) (w' : World) : Prop :=
  ∃ T c, e = .returned (.slice T s.out.length c) ∧ RStep W w' g V K {s with now := s.now + 1, out := s.out.map fun x => (x.1, s.now + 1, x.2.2)} ∧ w'.ownsRow W.heap.size 53 25 (.slice T s.out.length c) s.out.length (rowC PR.cells (rps s s.out))
theorem rtk_start {W w1 w2 w3 : World} {g : Nat} {s : RL} {V K : Value} {A1 : Option Addr} {c1 n : Nat} (_h : RLX W g s V K) (t1 : Touch [g] W w1) (h1 : RLX w1 g {s with now := s.now + 1} V K) (b2 : Below w1.heap.size w1 w2) (b3 : Below w2.heap.size w2 w3)
    (ho : w3.ownsRow w2.heap.size 83 23 (.slice A1 n c1) n (rowC oE s.out)) (hn : s.out.length = n) : RTk W (w3.setCell ⟨g, 3, none⟩ (.slice A1 n c1)) g s K A1 c1 n 0 0 none 0 := by
  have b := acc b2 b3
  have h3 := h1.below b
  have t7 : Touch [g] w3 (w3.setCell ⟨g, 3, none⟩ (.slice A1 n c1)) := (Touch.refl _ _).set (.inl (by simp)) _
  have lf := h1.flt
  have z1 := t1.size
  have z2 := b2.size
  have lo := ho.lt
  have e3 := h3.hg
  have hgl := lf g (by simp [fr])
  refine ⟨⟨?_, ?_, t7.row h3.k (fun q hq z => by have := h3.gk q hq; simp at z; exact this z), fun q hq => ?_, h3.gk, fun q hq z => ?_⟩, hn, fun q hq => ?_, (t1.trans (Touch.ofBelow (F := []) b) (by simp)).trans t7 (fun q hq => .inl hq), World.ownsRow_nil _ _ _ _, fun q hq => (by cases hq)⟩
  · simp [World.setCell, Array.getElem?_modify, e3, updO_zero]
  · have h5 := t7.row ho (fun q hq z => by have := lo q hq; simp at z; omega)
    show World.ownsRow _ 0 _ 23 _ (updO s.out (s.now + 1) 0).length (rowC oE (updO s.out (s.now + 1) 0))
    rw [updO_zero, hn]
    exact lk_base h5 (Nat.zero_le _)
  · have := lo q hq; omega
  · have := lo q hq; have := lf q (mem_fr.2 (.inr (.inr z))); omega
  · have := lo q hq; omega
theorem rtk_end {W w : World} {g : Nat} {s : RL} {V K : Value} {A : Option Addr} {c n : Nat} {T : Option Addr} {cT : Nat} (_h : RLX W g s V K) (h : RTk W w g s K A c n n n T cT) : RTickPost W g s V K (.returned (.slice T n cT)) w := by
  have hn := h.ln
  subst hn
  refine ⟨T, cT, rfl, ⟨h.t, .slice A s.out.length c, K, ?_, fun q hq => ?_⟩, ?_⟩
  · have h5 := h.x
    rw [updO_all] at h5
    exact h5
  · rcases mem_fr.1 hq with e | e | e
    · exact .inl (mem_fr.2 (.inl e))
    · exact .inr (h.nf q e)
    · exact .inl (mem_fr.2 (.inr (.inr e)))
  · have h5 := h.row
    rw [List.take_length] at h5
    exact h5
set_option maxRecDepth 20000 in
set_option maxHeartbeats 8000000 in
theorem refTickDue_any {W : World} {g : Nat} {s : RL} {V K : Value} (h : RLX W g s V K) (hnow : s.now ≤ 1000000) (hat : ∀ x ∈ s.out, x.2.1 ≤ 1000000) (hlo : s.out.length ≤ 1000000) (hso : ∀ x ∈ s.out, x.2.2.sl) (hd : s.due = true) :
    Calls Try.prog 16 #[.pointer (some ⟨g, 0, none⟩)] W (RTickPost W g s V K) := by
  have hz : IntKind.i64.wrap ((s.now : Int) + 1) = (s.now : Int) + 1 := by rw [IntKind.wrap_i64]; omega
  have c6 : W.cell? ⟨g, 6, none⟩ = some (.int .i64 (s.now : Nat)) := bg_cell h.hg rfl
  have f6 : W.frozen? ⟨g, 6, none⟩ = false := Lib.frozen_of_heap h.hg 6
  have h1 : RLX (W.setCell ⟨g, 6, none⟩ (.int .i64 ((s.now : Int) + 1))) g {s with now := s.now + 1} V K := h.setNow (s.now + 1)
  have T1 : Touch [g] W (W.setCell ⟨g, 6, none⟩ (.int .i64 ((s.now : Int) + 1))) := (Touch.refl _ _).set (.inl (by simp)) _
  obtain ⟨w1, hw1⟩ : ∃ w1, W.setCell ⟨g, 6, none⟩ (.int .i64 ((s.now : Int) + 1)) = w1 := ⟨_, rfl⟩
  rw [hw1] at h1 T1
  obtain ⟨n, hn⟩ : ∃ n, s.out.length = n := ⟨_, rfl⟩
  have hv := h.v
  rw [hn] at hv hlo
  obtain ⟨A, c, hVs⟩ := own_slice hv
  rw [hVs] at hv
  have e1 := h1.hg
  rw [hVs] at e1
  have c3 : w1.cell? ⟨g, 3, none⟩ = some (.slice A n c) := bg_cell e1 rfl
  have c6 : w1.cell? ⟨g, 6, none⟩ = some (.int .i64 ((s.now : Int) + 1)) := bg_cell e1 rfl
  have H1 := Lib.hid h1
  have HT1 := Lib.hid T1
  obtain ⟨x, xs, hxs⟩ : ∃ x xs, s.out = x :: xs := by
    cases hx : s.out with
    | nil => unfold RL.due at hd; rw [hx] at hd; cases hd
    | cons x xs => exact ⟨x, xs, rfl⟩
  have hd1 : 4 ≤ (s.now : Int) + 1 - (x.2.1 : Nat) := by
    unfold RL.due at hd
    rw [hxs] at hd
    simpa using hd
  have hx2 : x.2.1 ≤ 1000000 := hat x (by rw [hxs]; simp)
  have hnz : n ≠ 0 := by rw [← hn, hxs]; simp
  obtain ⟨b0, rfl⟩ := lk_at hv (by omega)
  have hv1 := T1.row hv (fun q hq z => by have := h.gv q (by rw [hVs]; exact hq); simp at z; exact this z)
  have va : w1.cell? ⟨b0, 1, none⟩ = some (.int .i64 (x.2.1 : Nat)) := by
    have := row_rangeE oE_size hv1 (i := 0) (x := x) (by rw [hxs]; rfl) 1 _ rfl
    simpa using this
  have dn : ((n : Int) == 0) = false := by simpa using hnz
  have hw2 : IntKind.i64.wrap ((s.now : Int) + 1 - (x.2.1 : Int)) = (s.now : Int) + 1 - (x.2.1 : Int) := by rw [IntKind.wrap_i64]; omega
  have dd : decide ((s.now : Int) + 1 - (x.2.1 : Int) < 4) = false := by simp; omega
  obtain ⟨i0, hi0, hz0, hs0, hb0⟩ := lk_infoO
  obtain ⟨iP, hiP, hzP, hsP, hbP⟩ := lk_infoP
  have H := Lib.hid h
  have HV1 := Lib.hid hv1
  have HN := Lib.hid hn
  have HSO := Lib.hid hso
  have E1 := Lib.hid e1
  have H1O : Hid (∀ u ∈ rowC oE s.out, u.oneCell' = true) := rowC_all fun x hx => oE_one (hso x hx)
  have HVS := Lib.hid hVs
  clear h h1 T1 hv hn hd1 hx2 hxs hd hat hv1 hso e1 hVs
  go_enter Try.func16, Try.ntmps16
  go_upto_region 2 with fail
  clear hw1
  go_quiet (fail)
  obtain ⟨w2, hw2q⟩ : ∃ w2, w1.drewN nq = w2 := ⟨_, rfl⟩
  have HB2 : Hid (Below w1.heap.size w1 w2) := by rw [← hw2q]; exact below_drewN (Below.refl _ _) _
  rw [hw2q]
  clear hw2q c3 va dd dn hw2 c6
  have e2 := (HB2.out.block g (bg_lt E1.out)).trans E1.out
  have c3 : w2.cell? ⟨g, 3, none⟩ = some (.slice (some ⟨b0, 0, none⟩) n c) := bg_cell e2 rfl
  have E2 := Lib.hid e2
  clear e2
  go_upto_region 6 with (at_builtin; go_must (refine wpList_append_any rfl (.const (.slice none 0 0)) (.tmp 37) 27 rfl w2.heap.size 83 i0 (.agg lk_zo) 23 256 Try.underlying27 hi0 hz0 hs0 hb0 rfl (by decide) (.slice none 0 0) 0 [] rfl (World.ownsRow_nil _ _ _ _) (.slice (some ⟨b0, 0, none⟩) n c) n (rowC oE s.out) rfl (From.own (lk_below HV1.out HB2.out)) H1O.out (by unfold maxLen; omega) (by omega) (Nat.le_refl _) ?_); intro A1 c1 w3 ho3 hg3 hs3; simp only [Nat.zero_add, List.nil_append] at ho3 ⊢; have HB3 := Lib.hid ((Below.refl w2.heap.size w2).grown hg3 (Nat.le_refl _) (fun z hz => by cases hz)); have HO3 := Lib.hid ho3; have f3 : w3.frozen? ⟨g, 3, none⟩ = false := Lib.frozen_of_heap ((HB3.out.block g (bg_lt E2.out)).trans E2.out) 3; have k3 : w3.cell? ⟨g, 3, none⟩ = some (.slice (some ⟨b0, 0, none⟩) n c) := bg_cell ((HB3.out.block g (bg_lt E2.out)).trans E2.out) rfl; clear ho3 hg3 hs3)
  have HR0 := Lib.hid (rtk_start H.out HT1.out H1.out HB2.out HB3.out HO3.out HN.out)
  obtain ⟨w4, hw4⟩ : ∃ w4, w3.setCell ⟨g, 3, none⟩ (.slice A1 n c1) = w4 := ⟨_, rfl⟩
  rw [hw4] at HR0 ⊢
  clear hw4 f3 k3 c3
  go_wp2
  go_loopg [3, 4] (n + 1) (fun gh s3 s4 wx => ∃ (i : Nat) (T : Option Addr) (cT : Nat), i + gh = n + 1 ∧ i ≤ n ∧ s3 = .slice T i cT ∧ s4 = .int .i64 (i : Nat) ∧ Hid (RTk W wx g s K A1 c1 n i i T cT))
  case atStart => exact ⟨0, none, 0, by omega, by omega, rfl, rfl, HR0.out⟩
  case round =>
    obtain ⟨i, T, cT, hig, hi, rfl, rfl, HR⟩ := hrel
    have c3 : wr.cell? ⟨g, 3, none⟩ = some (.slice A1 n c1) := bg_cell HR.out.x.hg rfl
    by_cases hlt : i < n
    · have ii : (i : Int) < (n : Int) := by omega
      obtain ⟨x, hx⟩ : ∃ x, s.out[i]? = some x := ⟨s.out[i]'(by rw [HN.out]; exact hlt), List.getElem?_eq_getElem _⟩
      obtain ⟨b, rfl⟩ := lk_at HR.out.vrow (by omega)
      have HXI := Lib.hid hx
      have HXS : Hid (x.2.2.sl) := HSO.out x (List.mem_of_getElem? hx)
      have hra := row_rangeE oE_size HR.out.vrow (updO_at (t := s.now + 1) hx)
      have HCZ : Hid (wr.drew.cell? ⟨b, i * 23 + 1, none⟩ = some (.int .i64 (x.2.1 : Nat))) := hra 1 _ rfl
      have HFZ : Hid (wr.drew.frozen? ⟨b, i * 23 + 1, none⟩ = false) := HR.out.vrow.frozenAt (i * 23 + 1)
      have HS9 : Hid (wr.drew.cell? ⟨g, 3, none⟩ = some (.slice (some ⟨b, 0, none⟩) n c1) ∧ wr.drew.cell? ⟨g, 6, none⟩ = some (.int .i64 ((s.now : Int) + 1))) := ⟨bg_cell HR.out.x.hg rfl, bg_cell HR.out.x.hg rfl⟩
      have hszL : (Try.prog.info? 51).map (·.size) = some x.2.2.cells.toList.length := lk_infoL
      clear hx hra
      go_upto_region 9 with fail
      refine wp_region_till (fun w' => w'.cell? ⟨g, 3, none⟩ = some (.slice (some ⟨b, 0, none⟩) n c1) ∧ w'.cell? ⟨g, 6, none⟩ = some (.int .i64 ((s.now : Int) + 1))) 11 (by kernel_rfl) ?_ (fun hHeld => ?_)
      · (try dsimp only); exact HS9.out
      refine wpAnyT_pure (i := 0) (oi := ⟨_, _, _, _, _, _⟩) (v := ?_) rfl (by kernel_rfl) (by kernel_rfl) (by kernel_rfl) (fun _ _ _ h => h) (by kernel_rfl) (Or.inl ⟨by rfl, ?_⟩) (by assumption) ?_
      rotate_left
      · (intro wS hSw; (try dsimp only at hSw); go_simp <;> with_reducible rfl)
      try simp only [Act.put, List.setIfInBounds_toArray, List.set_cons_zero, List.set_cons_succ]
      refine wpAnyT_pure (i := 1) (oi := ⟨_, _, _, _, _, _⟩) (v := ?_) rfl (by kernel_rfl) (by kernel_rfl) (by kernel_rfl) (fun _ _ _ h => h) (by kernel_rfl) (Or.inl ⟨by rfl, ?_⟩) (by assumption) ?_
      rotate_left
      · (intro wS hSw; (try dsimp only at hSw); go_simp <;> with_reducible rfl)
      try simp only [Act.put, List.setIfInBounds_toArray, List.set_cons_zero, List.set_cons_succ]
      refine wpAnyT_pure (i := 2) (oi := ⟨_, _, _, _, _, _⟩) (v := ?_) rfl (by kernel_rfl) (by kernel_rfl) (by kernel_rfl) (fun _ _ _ h => h) (by kernel_rfl) (Or.inl ⟨by rfl, ?_⟩) (by assumption) ?_
      rotate_left
      · (intro wS hSw; (try dsimp only at hSw); go_simp <;> with_reducible rfl)
      try simp only [Act.put, List.setIfInBounds_toArray, List.set_cons_zero, List.set_cons_succ]
      refine wpAnyT_pure (i := 4) (oi := ⟨_, _, _, _, _, _⟩) (v := ?_) rfl (by kernel_rfl) (by kernel_rfl) (by kernel_rfl) (fun _ _ _ h => h) (by kernel_rfl) (Or.inl ⟨by rfl, ?_⟩) (by assumption) ?_
      rotate_left
      · (intro wS hSw; (try dsimp only at hSw); go_simp <;> with_reducible rfl)
      try simp only [Act.put, List.setIfInBounds_toArray, List.set_cons_zero, List.set_cons_succ]
      refine wpAnyT_pure (i := 5) (oi := ⟨_, _, _, _, _, _⟩) (v := ?_) rfl (by kernel_rfl) (by kernel_rfl) (by kernel_rfl) (fun _ _ _ h => h) (by kernel_rfl) (Or.inl ⟨by rfl, ?_⟩) (by assumption) ?_
      rotate_left
      · (intro wS hSw; (try dsimp only at hSw); go_simp <;> with_reducible rfl)
      try simp only [Act.put, List.setIfInBounds_toArray, List.set_cons_zero, List.set_cons_succ]
      refine wpAnyT_pure (i := 6) (oi := ⟨_, _, _, _, _, _⟩) (v := ?_) rfl (by kernel_rfl) (by kernel_rfl) (by kernel_rfl) (fun _ _ _ h => h) (by kernel_rfl) (Or.inl ⟨by rfl, ?_⟩) (by assumption) ?_
      rotate_left
      · (intro wS hSw; (try dsimp only at hSw); go_simp <;> with_reducible rfl)
      try simp only [Act.put, List.setIfInBounds_toArray, List.set_cons_zero, List.set_cons_succ]
      refine wpAnyT_pure (i := 7) (oi := ⟨_, _, _, _, _, _⟩) (v := ?_) rfl (by kernel_rfl) (by kernel_rfl) (by kernel_rfl) (fun _ _ _ h => h) (by kernel_rfl) (Or.inl ⟨by rfl, ?_⟩) (by assumption) ?_
      rotate_left
      · (intro wS hSw; (try dsimp only at hSw); go_simp <;> with_reducible rfl)
      try simp only [Act.put, List.setIfInBounds_toArray, List.set_cons_zero, List.set_cons_succ]
      refine wpAnyT_take (i := 3) (oi := ⟨_, _, _, _, _, _⟩) (v := ?_) rfl (by kernel_rfl) (by kernel_rfl) (by kernel_rfl) (fun _ _ _ h => h) (by kernel_rfl) (Or.inl ⟨by rfl, ?_⟩) (by assumption) ?_
      rotate_left
      · (intro wS hSw; (try dsimp only at hSw); go_simp <;> with_reducible rfl)
      try simp only [Act.put, List.setIfInBounds_toArray, List.set_cons_zero, List.set_cons_succ]
      refine wpAnyT_take (i := 8) (oi := ⟨_, _, _, _, _, _⟩) (v := ?_) rfl (by kernel_rfl) (by kernel_rfl) (by kernel_rfl) (fun _ _ _ h => h) (by kernel_rfl) (Or.inl ⟨by rfl, ?_⟩) (by assumption) ?_
      rotate_left
      · (intro wS hSw; (try dsimp only at hSw); go_simp <;> with_reducible rfl)
      try simp only [Act.put, List.setIfInBounds_toArray, List.set_cons_zero, List.set_cons_succ]
      refine wpAnyT_pure (i := 9) (oi := ⟨_, _, _, _, _, _⟩) (v := ?_) rfl (by kernel_rfl) (by kernel_rfl) (by kernel_rfl) (fun _ _ _ h => h) (by kernel_rfl) (Or.inl ⟨by rfl, ?_⟩) (by assumption) ?_
      rotate_left
      · (intro wS hSw; (try dsimp only at hSw); go_simp <;> with_reducible rfl)
      try simp only [Act.put, List.setIfInBounds_toArray, List.set_cons_zero, List.set_cons_succ]
      refine wpAnyT_pure (i := 10) (oi := ⟨_, _, _, _, _, _⟩) (v := ?_) rfl (by kernel_rfl) (by kernel_rfl) (by kernel_rfl) (fun _ _ _ h => h) (by kernel_rfl) (Or.inl ⟨by rfl, ?_⟩) (by assumption) ?_
      rotate_left
      · (intro wS hSw; (try dsimp only at hSw); go_simp <;> with_reducible rfl)
      try simp only [Act.put, List.setIfInBounds_toArray, List.set_cons_zero, List.set_cons_succ]
      refine wpAnyT_ready (rs := [11]) (by kernel_rfl) (by simp) ?_
      refine (AllReadyT.past (o := ⟨_, _, _, _, _, _⟩) rfl (by kernel_rfl) (fun K hK => ?_) AllReadyT.nil)
      have fz : wr.drew.frozen? ⟨b, i * 23 + 1, none⟩ = false := HFZ.out
      have cz : wr.drew.cell? ⟨b, i * 23 + 1, none⟩ = some (.int .i64 (x.2.1 : Nat)) := HCZ.out
      go_simp
      refine hK.out _ _ ?_
      clear hK K
      try simp only [Act.put]
      refine wpAnyT_done (by kernel_rfl) ?_ _
      have HR5 := Lib.hid (HR.out.step HXI.out)
      obtain ⟨w5, hw5⟩ : ∃ w5, (wr.setCell ⟨b, i * 23 + 1, none⟩ (.int .i64 ((s.now : Int) + 1))).drew = w5 := ⟨_, rfl⟩
      have HR5 : Hid (RTk W w5 g s K (some ⟨b, 0, none⟩) c1 n (i + 1) i T cT) := by rw [← hw5]; exact HR5.out
      rw [hw5]
      clear hw5
      have HSS : Hid (∀ w', Touch (Value.slice T i cT).ownBlock.toList w5 w' → w'.cell? ⟨g, 0, none⟩ = some (.int .i64 s.me) ∧ w'.cell? ⟨g, 1, none⟩ = some (.int .i64 s.peer) ∧ w'.cell? ⟨g, 3, none⟩ = some (.slice (some ⟨b, 0, none⟩) n c1) ∧ w'.cell? ⟨g, 4, none⟩ = some (.int .i64 (s.came : Nat)) ∧ w'.cell? ⟨b, i * 23, none⟩ = some (.int .i64 (x.1 : Nat)) ∧ w'.rangeAt b (i * 23 + 2) x.2.2.cells.toList) := fun w' ht => HR5.out.cells HXI.out ht
      go_upto_region 10 with fail
      refine wp_region_till (fun w' => w'.cell? ⟨g, 0, none⟩ = some (.int .i64 s.me) ∧ w'.cell? ⟨g, 1, none⟩ = some (.int .i64 s.peer) ∧ w'.cell? ⟨g, 3, none⟩ = some (.slice (some ⟨b, 0, none⟩) n c1) ∧ w'.cell? ⟨g, 4, none⟩ = some (.int .i64 (s.came : Nat)) ∧ w'.cell? ⟨b, i * 23, none⟩ = some (.int .i64 (x.1 : Nat)) ∧ w'.rangeAt b (i * 23 + 2) x.2.2.cells.toList) 32 (by kernel_rfl) ?_ (fun hHeld => ?_)
      · (try dsimp only); exact HSS.out _ ((Touch.refl _ _).drew)
      refine wpAnyT_pure (i := 0) (oi := ⟨_, _, _, _, _, _⟩) (v := ?_) rfl (by kernel_rfl) (by kernel_rfl) (by kernel_rfl) (fun _ _ _ h => h) (by kernel_rfl) (Or.inl ⟨by rfl, ?_⟩) (by assumption) ?_
      rotate_left
      · (intro wS hSw; (try dsimp only at hSw); go_simp <;> with_reducible rfl)
      try simp only [Act.put, List.setIfInBounds_toArray, List.set_cons_zero, List.set_cons_succ]
      refine wpAnyT_pure (i := 1) (oi := ⟨_, _, _, _, _, _⟩) (v := ?_) rfl (by kernel_rfl) (by kernel_rfl) (by kernel_rfl) (fun _ _ _ h => h) (by kernel_rfl) (Or.inl ⟨by rfl, ?_⟩) (by assumption) ?_
      rotate_left
      · (intro wS hSw; (try dsimp only at hSw); go_simp <;> with_reducible rfl)
      try simp only [Act.put, List.setIfInBounds_toArray, List.set_cons_zero, List.set_cons_succ]
      refine wpAnyT_pure (i := 2) (oi := ⟨_, _, _, _, _, _⟩) (v := ?_) rfl (by kernel_rfl) (by kernel_rfl) (by kernel_rfl) (fun _ _ _ h => h) (by kernel_rfl) (Or.inl ⟨by rfl, ?_⟩) (by assumption) ?_
      rotate_left
      · (intro wS hSw; (try dsimp only at hSw); go_simp <;> with_reducible rfl)
      try simp only [Act.put, List.setIfInBounds_toArray, List.set_cons_zero, List.set_cons_succ]
      refine wpAnyT_pure (i := 3) (oi := ⟨_, _, _, _, _, _⟩) (v := ?_) rfl (by kernel_rfl) (by kernel_rfl) (by kernel_rfl) (fun _ _ _ h => h) (by kernel_rfl) (Or.inl ⟨by rfl, ?_⟩) (by assumption) ?_
      rotate_left
      · (intro wS hSw; (try dsimp only at hSw); go_simp <;> with_reducible rfl)
      try simp only [Act.put, List.setIfInBounds_toArray, List.set_cons_zero, List.set_cons_succ]
      refine wpAnyT_pure (i := 5) (oi := ⟨_, _, _, _, _, _⟩) (v := ?_) rfl (by kernel_rfl) (by kernel_rfl) (by kernel_rfl) (fun _ _ _ h => h) (by kernel_rfl) (Or.inl ⟨by rfl, ?_⟩) (by assumption) ?_
      rotate_left
      · (intro wS hSw; (try dsimp only at hSw); go_simp <;> with_reducible rfl)
      try simp only [Act.put, List.setIfInBounds_toArray, List.set_cons_zero, List.set_cons_succ]
      refine wpAnyT_pure (i := 6) (oi := ⟨_, _, _, _, _, _⟩) (v := ?_) rfl (by kernel_rfl) (by kernel_rfl) (by kernel_rfl) (fun _ _ _ h => h) (by kernel_rfl) (Or.inl ⟨by rfl, ?_⟩) (by assumption) ?_
      rotate_left
      · (intro wS hSw; (try dsimp only at hSw); go_simp <;> with_reducible rfl)
      try simp only [Act.put, List.setIfInBounds_toArray, List.set_cons_zero, List.set_cons_succ]
      refine wpAnyT_pure (i := 7) (oi := ⟨_, _, _, _, _, _⟩) (v := ?_) rfl (by kernel_rfl) (by kernel_rfl) (by kernel_rfl) (fun _ _ _ h => h) (by kernel_rfl) (Or.inl ⟨by rfl, ?_⟩) (by assumption) ?_
      rotate_left
      · (intro wS hSw; (try dsimp only at hSw); go_simp <;> with_reducible rfl)
      try simp only [Act.put, List.setIfInBounds_toArray, List.set_cons_zero, List.set_cons_succ]
      refine wpAnyT_pure (i := 9) (oi := ⟨_, _, _, _, _, _⟩) (v := ?_) rfl (by kernel_rfl) (by kernel_rfl) (by kernel_rfl) (fun _ _ _ h => h) (by kernel_rfl) (Or.inl ⟨by rfl, ?_⟩) (by assumption) ?_
      rotate_left
      · (intro wS hSw; (try dsimp only at hSw); go_simp <;> with_reducible rfl)
      try simp only [Act.put, List.setIfInBounds_toArray, List.set_cons_zero, List.set_cons_succ]
      refine wpAnyT_pure (i := 10) (oi := ⟨_, _, _, _, _, _⟩) (v := ?_) rfl (by kernel_rfl) (by kernel_rfl) (by kernel_rfl) (fun _ _ _ h => h) (by kernel_rfl) (Or.inl ⟨by rfl, ?_⟩) (by assumption) ?_
      rotate_left
      · (intro wS hSw; (try dsimp only at hSw); go_simp <;> with_reducible rfl)
      try simp only [Act.put, List.setIfInBounds_toArray, List.set_cons_zero, List.set_cons_succ]
      refine wpAnyT_pure (i := 11) (oi := ⟨_, _, _, _, _, _⟩) (v := ?_) rfl (by kernel_rfl) (by kernel_rfl) (by kernel_rfl) (fun _ _ _ h => h) (by kernel_rfl) (Or.inl ⟨by rfl, ?_⟩) (by assumption) ?_
      rotate_left
      · (intro wS hSw; (try dsimp only at hSw); go_simp <;> with_reducible rfl)
      try simp only [Act.put, List.setIfInBounds_toArray, List.set_cons_zero, List.set_cons_succ]
      refine wpAnyT_pure (i := 13) (oi := ⟨_, _, _, _, _, _⟩) (v := ?_) rfl (by kernel_rfl) (by kernel_rfl) (by kernel_rfl) (fun _ _ _ h => h) (by kernel_rfl) (Or.inl ⟨by rfl, ?_⟩) (by assumption) ?_
      rotate_left
      · (intro wS hSw; (try dsimp only at hSw); go_simp <;> with_reducible rfl)
      try simp only [Act.put, List.setIfInBounds_toArray, List.set_cons_zero, List.set_cons_succ]
      refine wpAnyT_pure (i := 17) (oi := ⟨_, _, _, _, _, _⟩) (v := ?_) rfl (by kernel_rfl) (by kernel_rfl) (by kernel_rfl) (fun _ _ _ h => h) (by kernel_rfl) (Or.inl ⟨by rfl, ?_⟩) (by assumption) ?_
      rotate_left
      · (intro wS hSw; (try dsimp only at hSw); go_simp <;> with_reducible rfl)
      try simp only [Act.put, List.setIfInBounds_toArray, List.set_cons_zero, List.set_cons_succ]
      refine wpAnyT_pure (i := 18) (oi := ⟨_, _, _, _, _, _⟩) (v := ?_) rfl (by kernel_rfl) (by kernel_rfl) (by kernel_rfl) (fun _ _ _ h => h) (by kernel_rfl) (Or.inl ⟨by rfl, ?_⟩) (by assumption) ?_
      rotate_left
      · (intro wS hSw; (try dsimp only at hSw); go_simp <;> with_reducible rfl)
      try simp only [Act.put, List.setIfInBounds_toArray, List.set_cons_zero, List.set_cons_succ]
      refine wpAnyT_pure (i := 19) (oi := ⟨_, _, _, _, _, _⟩) (v := ?_) rfl (by kernel_rfl) (by kernel_rfl) (by kernel_rfl) (fun _ _ _ h => h) (by kernel_rfl) (Or.inl ⟨by rfl, ?_⟩) (by assumption) ?_
      rotate_left
      · (intro wS hSw; (try dsimp only at hSw); go_simp <;> with_reducible rfl)
      try simp only [Act.put, List.setIfInBounds_toArray, List.set_cons_zero, List.set_cons_succ]
      refine wpAnyT_pure (i := 21) (oi := ⟨_, _, _, _, _, _⟩) (v := ?_) rfl (by kernel_rfl) (by kernel_rfl) (by kernel_rfl) (fun _ _ _ h => h) (by kernel_rfl) (Or.inl ⟨by rfl, ?_⟩) (by assumption) ?_
      rotate_left
      · (intro wS hSw; (try dsimp only at hSw); go_simp <;> with_reducible rfl)
      try simp only [Act.put, List.setIfInBounds_toArray, List.set_cons_zero, List.set_cons_succ]
      refine wpAnyT_pure (i := 22) (oi := ⟨_, _, _, _, _, _⟩) (v := ?_) rfl (by kernel_rfl) (by kernel_rfl) (by kernel_rfl) (fun _ _ _ h => h) (by kernel_rfl) (Or.inl ⟨by rfl, ?_⟩) (by assumption) ?_
      rotate_left
      · (intro wS hSw; (try dsimp only at hSw); go_simp <;> with_reducible rfl)
      try simp only [Act.put, List.setIfInBounds_toArray, List.set_cons_zero, List.set_cons_succ]
      refine wpAnyT_pure (i := 23) (oi := ⟨_, _, _, _, _, _⟩) (v := ?_) rfl (by kernel_rfl) (by kernel_rfl) (by kernel_rfl) (fun _ _ _ h => h) (by kernel_rfl) (Or.inl ⟨by rfl, ?_⟩) (by assumption) ?_
      rotate_left
      · (intro wS hSw; (try dsimp only at hSw); go_simp <;> with_reducible rfl)
      try simp only [Act.put, List.setIfInBounds_toArray, List.set_cons_zero, List.set_cons_succ]
      refine wpAnyT_pure (i := 25) (oi := ⟨_, _, _, _, _, _⟩) (v := ?_) rfl (by kernel_rfl) (by kernel_rfl) (by kernel_rfl) (fun _ _ _ h => h) (by kernel_rfl) (Or.inl ⟨by rfl, ?_⟩) (by assumption) ?_
      rotate_left
      · (intro wS hSw; (try dsimp only at hSw); go_simp <;> with_reducible rfl)
      try simp only [Act.put, List.setIfInBounds_toArray, List.set_cons_zero, List.set_cons_succ]
      refine wpAnyT_take (i := 4) (oi := ⟨_, _, _, _, _, _⟩) (v := ?_) rfl (by kernel_rfl) (by kernel_rfl) (by kernel_rfl) (fun _ _ _ h => h) (by kernel_rfl) (Or.inl ⟨by rfl, ?_⟩) (by assumption) ?_
      rotate_left
      · (intro wS hSw; (try dsimp only at hSw); go_simp <;> with_reducible rfl)
      try simp only [Act.put, List.setIfInBounds_toArray, List.set_cons_zero, List.set_cons_succ]
      refine wpAnyT_take (i := 8) (oi := ⟨_, _, _, _, _, _⟩) (v := ?_) rfl (by kernel_rfl) (by kernel_rfl) (by kernel_rfl) (fun _ _ _ h => h) (by kernel_rfl) (Or.inl ⟨by rfl, ?_⟩) (by assumption) ?_
      rotate_left
      · (intro wS hSw; (try dsimp only at hSw); go_simp <;> with_reducible rfl)
      try simp only [Act.put, List.setIfInBounds_toArray, List.set_cons_zero, List.set_cons_succ]
      refine wpAnyT_take (i := 12) (oi := ⟨_, _, _, _, _, _⟩) (v := ?_) rfl (by kernel_rfl) (by kernel_rfl) (by kernel_rfl) (fun _ _ _ h => h) (by kernel_rfl) (Or.inl ⟨by rfl, ?_⟩) (by assumption) ?_
      rotate_left
      · (intro wS hSw; (try dsimp only at hSw); go_simp <;> with_reducible rfl)
      try simp only [Act.put, List.setIfInBounds_toArray, List.set_cons_zero, List.set_cons_succ]
      refine wpAnyT_pure (i := 14) (oi := ⟨_, _, _, _, _, _⟩) (v := ?_) rfl (by kernel_rfl) (by kernel_rfl) (by kernel_rfl) (fun _ _ _ h => h) (by kernel_rfl) (Or.inl ⟨by rfl, ?_⟩) (by assumption) ?_
      rotate_left
      · (intro wS hSw; (try dsimp only at hSw); go_simp <;> with_reducible rfl)
      try simp only [Act.put, List.setIfInBounds_toArray, List.set_cons_zero, List.set_cons_succ]
      refine wpAnyT_pure (i := 15) (oi := ⟨_, _, _, _, _, _⟩) (v := ?_) rfl (by kernel_rfl) (by kernel_rfl) (by kernel_rfl) (fun _ _ _ h => h) (by kernel_rfl) (Or.inl ⟨by rfl, ?_⟩) (by assumption) ?_
      rotate_left
      · (intro wS hSw; (try dsimp only at hSw); go_simp <;> with_reducible rfl)
      try simp only [Act.put, List.setIfInBounds_toArray, List.set_cons_zero, List.set_cons_succ]
      refine wpAnyT_take (i := 16) (oi := ⟨_, _, _, _, _, _⟩) (v := ?_) rfl (by kernel_rfl) (by kernel_rfl) (by kernel_rfl) (fun _ _ _ h => h) (by kernel_rfl) (Or.inl ⟨by rfl, ?_⟩) (by assumption) ?_
      rotate_left
      · (intro wS hSw; (try dsimp only at hSw); go_simp <;> with_reducible rfl)
      try simp only [Act.put, List.setIfInBounds_toArray, List.set_cons_zero, List.set_cons_succ]
      refine wpAnyT_take (i := 20) (oi := ⟨_, _, _, _, _, _⟩) (v := ?_) rfl (by kernel_rfl) (by kernel_rfl) (by kernel_rfl) (fun _ _ _ h => h) (by kernel_rfl) (Or.inl ⟨by rfl, ?_⟩) (by assumption) ?_
      rotate_left
      · (intro wS hSw; (try dsimp only at hSw); go_simp <;> with_reducible rfl)
      try simp only [Act.put, List.setIfInBounds_toArray, List.set_cons_zero, List.set_cons_succ]
      refine wpAnyT_take (i := 24) (oi := ⟨_, _, _, _, _, _⟩) (v := ?_) rfl (by kernel_rfl) (by kernel_rfl) (by kernel_rfl) (fun _ _ _ h => h) (by kernel_rfl) (Or.inl ⟨by rfl, ?_⟩) (by assumption) ?_
      rotate_left
      · (intro wS hSw; (try dsimp only at hSw); go_simp <;> with_reducible rfl)
      try simp only [Act.put, List.setIfInBounds_toArray, List.set_cons_zero, List.set_cons_succ]
      refine wpAnyT_pure (i := 26) (oi := ⟨_, _, _, _, _, _⟩) (v := ?_) rfl (by kernel_rfl) (by kernel_rfl) (by kernel_rfl) (fun _ _ _ h => h) (by kernel_rfl) (Or.inl ⟨by rfl, ?_⟩) (by assumption) ?_
      rotate_left
      · (intro wS hSw; (try dsimp only at hSw); go_simp <;> with_reducible rfl)
      try simp only [Act.put, List.setIfInBounds_toArray, List.set_cons_zero, List.set_cons_succ]
      refine wpAnyT_pure (i := 27) (oi := ⟨_, _, _, _, _, _⟩) (v := ?_) rfl (by kernel_rfl) (by kernel_rfl) (by kernel_rfl) (fun _ _ _ h => h) (by kernel_rfl) (Or.inl ⟨by rfl, ?_⟩) (by assumption) ?_
      rotate_left
      · (intro wS hSw; (try dsimp only at hSw); go_simp <;> with_reducible rfl)
      try simp only [Act.put, List.setIfInBounds_toArray, List.set_cons_zero, List.set_cons_succ]
      refine wpAnyT_take (i := 28) (oi := ⟨_, _, _, _, _, _⟩) (v := .agg x.2.2.cells.toList.toArray) rfl (by kernel_rfl) (by kernel_rfl) (by kernel_rfl) (fun _ _ _ h => h) (by kernel_rfl) (yieldsIf_load_mid (by rfl) 51 (.tmp 88) rfl b (i * 23 + 2) rfl x.2.2.cells.toList _ (fun _ h => h.2.2.2.2.2) Try.underlying51 rfl hszL) (by assumption) ?_
      try simp only [Act.put, List.setIfInBounds_toArray, List.set_cons_zero, List.set_cons_succ]
      try simp only [Array.toArray_toList]
      refine wpAnyT_ready (rs := [29]) (by kernel_rfl) (by simp) ?_
      refine (AllReadyT.cons (o := ⟨_, _, _, _, _, _⟩) rfl (fun K hK => ?_) AllReadyT.nil)
      go_simp
      refine hK.out _ _ (by (try dsimp only); first | assumption | exact HSS.out _ ((Touch.refl _ _).drew)) (fun hHeld => ?_)
      clear hK K
      try simp only [Act.put, List.setIfInBounds_toArray, List.set_cons_zero, List.set_cons_succ]
      refine wpAnyT_ready (rs := [30]) (by kernel_rfl) (by simp) ?_
      refine (AllReadyT.cons (o := ⟨_, _, _, _, _, _⟩) rfl (fun K hK => ?_) AllReadyT.nil)
      have hS3 := HSS.out _ (((Touch.refl (Value.slice T i cT).ownBlock.toList w5).drew).alloc (.cells (PR.mk s.me s.peer (x.1 : Nat) (s.came : Nat) x.2.2).cells 53))
      go_simp
      refine hK.out _ _ (by (try dsimp only); first | assumption | exact HSS.out _ ((Touch.refl _ _).drew)) (fun hHeld => ?_)
      clear hK K
      try simp only [Act.put, List.setIfInBounds_toArray, List.set_cons_zero, List.set_cons_succ]
      refine wpAnyT_ready (rs := [31]) (by kernel_rfl) (by simp) ?_
      refine (AllReadyT.cons (o := ⟨_, _, _, _, _, _⟩) rfl (fun K hK => ?_) AllReadyT.nil)
      refine step_append_any rfl (.tmp 61) (.tmp 91) 28 rfl W.heap.size 53 iP (.agg (lpCells 0 0 0 0 0 0)) 25 272 Try.underlying28 hiP hzP hsP hbP rfl (by decide) (.slice T i cT) i (rowC PR.cells (rps s (s.out.take i))) rfl (HR5.out.row.drew.alloc _) (.slice (some ⟨w5.drew.heap.size, 0, none⟩) 1 1) 1 (rowC PR.cells [(PR.mk s.me s.peer (x.1 : Nat) (s.came : Nat) x.2.2)]) rfl (.inr ⟨⟨w5.drew.heap.size, 0, none⟩, 1, rfl, rfl, lk_new_row w5.drew (PR.mk s.me s.peer (x.1 : Nat) (s.came : Nat) x.2.2).cells _⟩) (rowC_all (enc := PR.cells) (l := [(PR.mk s.me s.peer (x.1 : Nat) (s.came : Nat) x.2.2)]) (fun y hy => by simp at hy; subst hy; exact PR.one HXS.out)) (by unfold maxLen; omega) (by omega) (by have := HR5.out.t.size; simp; omega) ?_
      intro T7 c7 w7 ho7 hg7 hs7
      have HT7 : Hid (Touch (Value.slice T i cT).ownBlock.toList w5 w7) := (((Touch.refl _ w5).drew).alloc _).grown hg7 (fun k hk => .inl (by simp [hk]))
      have hS7 := HSS.out w7 HT7.out
      have HO7 := Lib.hid ho7
      have HN7 : Hid (SameOrNew w5 (.slice T i cT) (.slice T7 (i + 1) c7)) := fun q hq => by
        rcases hs7 q hq with z | z
        · exact .inl z
        · exact .inr (by simp at z; omega)
      clear ho7 hg7 hs7
      refine hK.out _ _ (by (try dsimp only); first | assumption | exact HSS.out _ ((Touch.refl _ _).drew)) (fun hHeld => ?_)
      clear hK K
      try simp only [Act.put, List.setIfInBounds_toArray, List.set_cons_zero, List.set_cons_succ]
      refine wpAnyT_ready (rs := [32]) (by kernel_rfl) (by simp) ?_
      refine (AllReadyT.past (o := ⟨_, _, _, _, _, _⟩) rfl (by kernel_rfl) (fun K hK => ?_) AllReadyT.nil)
      go_simp
      refine hK.out _ _ ?_
      clear hK K
      try simp only [Act.put, List.setIfInBounds_toArray, List.set_cons_zero, List.set_cons_succ]
      refine wpAnyT_done (by kernel_rfl) ?_ _
      go_wp2_with fail
      go_roundg (gk - 1)
      case measure => omega
      case rel => exact ⟨i + 1, T7, c7, by omega, by omega, rfl, by go_num, HR5.out.more HXI.out HT7.out HO7.out HN7.out⟩
    · obtain rfl : n = i := by omega
      go_wp2
      go_ret
      exact rtk_end H.out HR.out
end Go.Proofs.Ytfemdfidfomchaa
