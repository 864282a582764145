/-
  All: the way through a view's arcs, as a range over it sees it (partsWay), and a closure that is handed to it (partsTour). (Written by tools/genVT.py.)
-/
import Derived.Test.YthjhfnbcfgkehaaViewLearn
import Derived.Test.YthjhfnbcfgkehaaRowsIn
namespace Go.Proofs.Ythjhfnbcfgkehaa
open Go.RowKit

attribute [local go_sem] Oper.semAt_some

theorem all_any (p : Option Addr) (W : World) : Calls Try.prog 21 #[.pointer p] W fun e w' =>
    e = .returned (.func (.func 35) #[] #[.pointer (some ⟨W.heap.size, 0, none⟩)]) ∧ w' = W.alloc (.cells #[.pointer p] 29) := by
  go_enter Try.func21, Try.ntmps21
  go_wp2_with fail
  go_ret
  exact ⟨rfl, rfl⟩
/-- what a round is handed -/
abbrev encO (p : AO) : Array Value := #[.agg p.cells]
/-- the part that follows the one at i, round the ring -/
theorem nxt_at {P : List PT} {n i : Nat} (hn : P.length = n) (hi : i < n) : ∃ q, P[(i + 1) % n]? = some q ∧ q.x = nxh (nxh 0 P) (P.drop (i + 1)) := by
  rcases (by omega : i + 1 < n ∨ i + 1 = n) with h | h
  · rw [Nat.mod_eq_of_lt h]
    refine ⟨P[i + 1]'(by omega), List.getElem?_eq_getElem (by omega), ?_⟩
    rw [List.drop_eq_getElem_cons (by omega)]
    rfl
  · rw [h, Nat.mod_self]
    cases P with
    | nil => simp at hn; omega
    | cons p r => exact ⟨p, rfl, by rw [List.drop_of_length_le (by omega)]; rfl⟩
/-- a row that the caller does not write into stays -/
theorem left_row {B Y Y' : List Nat} {w w' : World} (h : Left B Y w w' Y') {base e size n : Nat} {v : Value} {xs : List Value} (hr : w.ownsRow base e size v n xs) (hn : ∀ q, v.ownBlock = some q → q ∈ B ∨ q ∉ Y) :
    w'.ownsRow base e size v n xs ∧ ∀ q, v.ownBlock = some q → q ∈ B ∨ q ∉ Y' := by
  have h0 := h
  obtain ⟨⟨G, t, hG⟩, hY⟩ := h
  refine ⟨t.row hr (fun q hq z => (hn q hq).elim (fun y => (hG q z).2 y) (fun y => y (hG q z).1)), fun q hq => ?_⟩
  rcases hn q hq with z | z
  · exact .inl z
  · exact .inr (h0.away (hr.lt q hq).2 z).2.1
theorem ao_info4 : (Try.prog.info? 27).map (·.size) = some 4 := by kernel_rfl
theorem ao_one4 (p : AO) : p.cells.all (·.oneCell') = true := by simp [AO.cells, Value.oneCell']
theorem pr_big {W : World} {base e size n : Nat} {v : Value} {xs : List Value} (h : W.ownsRow base e size v n xs) : n ≤ 9223372036854775807 := by
  obtain ⟨_, c, _, h1, h2⟩ := pr_slice h
  exact Nat.le_trans h1 (Nat.le_trans h2 (by decide))
set_option maxRecDepth 100000 in
set_option maxHeartbeats 8000000 in
theorem partsWay {W : World} {g n c : Nat} {A : Option Addr} {P : List PT} {F : List Nat} (hF : ∀ q ∈ F, q < W.heap.size) (hv : Var W g (.slice A n c)) (h4 : (A = none ∧ n = 0 ∧ c = 0 ∧ P = [PT0] ∧ F = [g]) ∨ (∃ q, A = some ⟨q, 0, none⟩ ∧ PtRow W 0 (.slice A n c) n P ∧ q ≠ g ∧ F = [g, q]))
    {b : Nat} (hc : W.cell? ⟨b, 0, none⟩ = some (.pointer (some ⟨g, 0, none⟩))) :
    WayY 35 #[.pointer (some ⟨b, 0, none⟩)] encO (arcsP P) F W := by
  intro l J Q Y0 hY00 h0 hJ _hQ hR
  have hY0 : ∀ q ∈ Y0, q < W.heap.size ∧ True := fun q hq => ⟨hY00 q hq, trivial⟩
  clear hY00
  have H0 := Lib.hid h0
  have HJ := Lib.hid hJ
  have HR := Lib.hid hR
  have HY0 := Lib.hid hY0
  have HF := Lib.hid hF
  have CR := Lib.hid (ring_any hv h4)
  have c1 := hc
  clear h0 hJ hR hY0 hF hv h4
  go_enter Try.func35, Try.ntmps35
  go_wp2_with (go_at_call 19; (with_reducible refine (CR.out).mono ?_); rintro e w1 ⟨A1, n1, k1, rfl, hr1, hq1, hb1⟩; have hn1 := pr_len hr1; have hbig := pr_big hr1; have HR1 := Lib.hid hr1; have HQ1 := Lib.hid hq1; have HB1 := Lib.hid hb1; clear hr1 hq1 hb1)
  clear CR c1 hc
  have HN1 := Lib.hid hn1
  clear hn1
  go_loopg [12] (n1 + 1) (fun gh s12 wx => ∃ i k Y, i + gh = n1 + 1 ∧ i ≤ n1 ∧ s12 = .int .i64 (i : Nat) ∧ Hid (J k wx Y) ∧ Hid (Left F Y0 W wx Y) ∧ Hid (PtRow wx 0 (.slice A1 n1 k1) n1 P) ∧ Hid (∀ q, (Value.slice A1 n1 k1).ownBlock = some q → q ∈ F ∨ q ∉ Y) ∧ Hid ((arcsP P).drop k = arcsR (nxh 0 P) (P.drop i) ∧ k ≤ (arcsP P).length))
  case atStart =>
    refine ⟨0, 0, Y0, by omega, by omega, rfl, HJ.out 0 W w1 Y0 [] H0.out (Touch.ofBelow HB1.out) (by simp), ⟨⟨[], Touch.ofBelow HB1.out, by simp⟩, fun q hq => ⟨Nat.lt_of_lt_of_le (HY0.out q hq).1 HB1.out.size, .inl hq⟩⟩, HR1.out, fun q hq => ?_, ⟨rfl, Nat.zero_le _⟩⟩
    rcases HQ1.out q hq with z | z
    · exact .inl z
    · exact .inr fun y => by have := (HY0.out q y).1; omega
  case round =>
    obtain ⟨i, k, Y, hig, hi, rfl, HJi, HL, HRW, HA, HX⟩ := hrel
    by_cases hlt : i < n1
    · obtain ⟨q, rfl⟩ := pr_at HRW.out (by omega)
      obtain ⟨p, hp⟩ : ∃ p, P[i]? = some p := ⟨_, List.getElem?_eq_getElem (by rw [HN1.out]; exact hlt)⟩
      have HRA := Lib.hid (pr_range HRW.out hp)
      have HDR : Hid (P.drop i = p :: P.drop (i + 1)) := by
        obtain ⟨hl, rfl⟩ := List.getElem?_eq_some_iff.1 hp
        exact List.drop_eq_getElem_cons hl
      have i1 : (i : Int) < (n1 : Int) := by omega
      have hsz : (Try.prog.info? 50).map (·.size) = some p.cells.toList.length := pt_info
      have hszp : (Try.prog.info? 50).map (·.size) = some p.cells.size := pt_info
      have hold : (#[.int .u64 0, .int .i64 0, .int .i64 0] : Array Value).size = p.cells.size := rfl
      have hone := pt_one p
      clear hp
      go_upto_region 4 with (first
        | (refine wpList_load_mid rfl 50 (.tmp 15) rfl q (i * 3) rfl p.cells.toList _ HRA.out Try.underlying50 rfl hsz ?_)
        | (with_reducible (show wpList _ _ _ (⟨none, Op.store _ (Operand.tmp 5) _, _, _, _, _⟩ :: _) _ _); go_must (refine wpList_store_row rfl 50 (.tmp 5) (.tmp 16) rfl wr.heap.size p.cells rfl rfl 50 #[.int .u64 0, .int .i64 0, .int .i64 0] (heap_alloc_new wr _) hszp hold hone ?_)))
      obtain ⟨b3, hb3⟩ : ∃ b3, wr.heap.size = b3 := ⟨_, rfl⟩
      have B3 := bx_new wr #[.int .u64 0, .int .i64 0, .int .i64 0] p.cells 50
      have h3 : ((wr.alloc (.cells #[.int .u64 0, .int .i64 0, .int .i64 0] 50)).setRow wr.heap.size p.cells).heap[wr.heap.size]? = some (.cells p.cells 50) := bx_row _ (heap_alloc_new wr _)
      obtain ⟨w3, hw3⟩ : ∃ w3, (wr.alloc (.cells #[.int .u64 0, .int .i64 0, .int .i64 0] 50)).setRow wr.heap.size p.cells = w3 := ⟨_, rfl⟩
      rw [hw3] at B3 h3 ⊢
      rw [hb3] at h3 ⊢
      have HB3 := Lib.hid B3
      have H3 := Lib.hid h3
      have x2 : w3.cell? ⟨b3, 2, none⟩ = some (.int .i64 p.e) := by rw [Lib.cell_of_heap h3]; rfl
      clear hw3 B3 h3 hb3 HRA
      cases d4 : (p.e == -1) with
      | true =>
        have he : p.e = -1 := of_decide_eq_true d4
        have HAR : Hid (arcsR (nxh 0 P) (P.drop i) = arcsR (nxh 0 P) (P.drop (i + 1))) := by
          show arcsR (nxh 0 P) (P.drop i) = _
          rw [HDR.out, arcsR, if_pos he]
        have hL3 : Left F Y wr w3 Y := ⟨⟨[], Touch.ofBelow HB3.out, by simp⟩, fun q hq => ⟨Nat.lt_of_lt_of_le (HL.out.2 q hq).1 HB3.out.size, .inl hq⟩⟩
        have HL3 := Lib.hid (HL.out.trans hL3)
        have HR3 := Lib.hid (pr_below HRW.out HB3.out)
        have HJ3 : Hid (J k w3 Y) := HJ.out k wr w3 Y [] HJi.out (Touch.ofBelow HB3.out) (by simp)
        clear he hL3
        go_wp2_with fail
        go_roundg (gk - 1)
        case measure => omega
        case rel => exact ⟨i + 1, k, Y, by omega, by omega, by go_num, HJ3, HL3, HR3, HA, by rw [← HAR.out]; exact HX⟩
      | false =>
        have he : ¬ p.e = -1 := of_decide_eq_false d4
        obtain ⟨nx, hnx, hnx2⟩ := nxt_at HN1.out hlt
        obtain ⟨m, hm⟩ : ∃ m, (i + 1) % n1 = m := ⟨_, rfl⟩
        have hm1 : m < n1 := by rw [← hm]; exact Nat.mod_lt _ (by omega)
        have hm2 : ((i : Int) + 1) % (n1 : Int) = (m : Nat) := by rw [← hm]; rfl
        rw [hm] at hnx
        have HAR : Hid (arcsR (nxh 0 P) (P.drop i) = ⟨p.x, nx.x, p.n, p.e⟩ :: arcsR (nxh 0 P) (P.drop (i + 1))) := by
          show arcsR (nxh 0 P) (P.drop i) = _
          rw [HDR.out, arcsR, if_neg he, hnx2]
        have HRB := Lib.hid (pr_range (pr_below HRW.out HB3.out) hnx)
        have hszq : (Try.prog.info? 50).map (·.size) = some nx.cells.toList.length := pt_info
        have hszr : (Try.prog.info? 50).map (·.size) = some nx.cells.size := pt_info
        have holq : (#[.int .u64 0, .int .i64 0, .int .i64 0] : Array Value).size = nx.cells.size := rfl
        have honq := pt_one nx
        clear he hnx hnx2 hm x2
        have x2 : w3.cell? ⟨b3, 2, none⟩ = some (.int .i64 p.e) := by rw [Lib.cell_of_heap H3.out]; rfl
        go_upto_region 6 with (first
          | (refine wpList_load_mid rfl 50 (.tmp 26) rfl q (m * 3) rfl nx.cells.toList _ HRB.out Try.underlying50 rfl hszq ?_)
          | (with_reducible (show wpList _ _ _ (⟨none, Op.store _ (Operand.tmp 6) _, _, _, _, _⟩ :: _) _ _); go_must (refine wpList_store_row rfl 50 (.tmp 6) (.tmp 27) rfl w3.heap.size nx.cells rfl rfl 50 #[.int .u64 0, .int .i64 0, .int .i64 0] (heap_alloc_new w3 _) hszr holq honq ?_)))
        obtain ⟨b4, hb4⟩ : ∃ b4, w3.heap.size = b4 := ⟨_, rfl⟩
        have B4 := bx_new w3 #[.int .u64 0, .int .i64 0, .int .i64 0] nx.cells 50
        have h5 : ((w3.alloc (.cells #[.int .u64 0, .int .i64 0, .int .i64 0] 50)).setRow w3.heap.size nx.cells).heap[w3.heap.size]? = some (.cells nx.cells 50) := bx_row _ (heap_alloc_new w3 _)
        obtain ⟨w4, hw4⟩ : ∃ w4, (w3.alloc (.cells #[.int .u64 0, .int .i64 0, .int .i64 0] 50)).setRow w3.heap.size nx.cells = w4 := ⟨_, rfl⟩
        rw [hw4] at B4 h5 ⊢
        rw [hb4] at h5 ⊢
        have HB4 := Lib.hid (acc HB3.out B4)
        have h6 := (B4.block b3 (bx_lt H3.out)).trans H3.out
        have x0 : w4.cell? ⟨b3, 0, none⟩ = some (.int .u64 (p.x : Nat)) := by rw [Lib.cell_of_heap h6]; rfl
        have x1 : w4.cell? ⟨b3, 1, none⟩ = some (.int .i64 p.n) := by rw [Lib.cell_of_heap h6]; rfl
        have x3 : w4.cell? ⟨b3, 2, none⟩ = some (.int .i64 p.e) := by rw [Lib.cell_of_heap h6]; rfl
        have y0 : w4.cell? ⟨b4, 0, none⟩ = some (.int .u64 (nx.x : Nat)) := by rw [Lib.cell_of_heap h5]; rfl
        clear hw4 B4 h5 hb4 HRB h6 x2
        have hsza : (Try.prog.info? 27).map (·.size) = some (#[.int .u64 (p.x : Nat), .int .u64 (nx.x : Nat), .int .i64 p.n, .int .i64 p.e] : Array Value).size := ao_info4
        have hola : (#[.int .u64 0, .int .u64 0, .int .i64 0, .int .i64 0] : Array Value).size = (#[.int .u64 (p.x : Nat), .int .u64 (nx.x : Nat), .int .i64 p.n, .int .i64 p.e] : Array Value).size := rfl
        have hona : (#[.int .u64 (p.x : Nat), .int .u64 (nx.x : Nat), .int .i64 p.n, .int .i64 p.e] : Array Value).all (·.oneCell') = true := ao_one4 ⟨p.x, nx.x, p.n, p.e⟩
        go_upto_region 7 with (with_reducible (show wpList _ _ _ (⟨none, Op.store _ (Operand.tmp 7) _, _, _, _, _⟩ :: _) _ _); go_must (refine wpList_store_row rfl 27 (.tmp 7) (.tmp 37) rfl w4.heap.size #[.int .u64 (p.x : Nat), .int .u64 (nx.x : Nat), .int .i64 p.n, .int .i64 p.e] rfl rfl 27 #[.int .u64 0, .int .u64 0, .int .i64 0, .int .i64 0] (heap_alloc_new w4 _) hsza hola hona ?_))
        obtain ⟨b7, hb7⟩ : ∃ b7, w4.heap.size = b7 := ⟨_, rfl⟩
        have B7 := bx_new w4 #[.int .u64 0, .int .u64 0, .int .i64 0, .int .i64 0] #[.int .u64 (p.x : Nat), .int .u64 (nx.x : Nat), .int .i64 p.n, .int .i64 p.e] 27
        have h7 : ((w4.alloc (.cells #[.int .u64 0, .int .u64 0, .int .i64 0, .int .i64 0] 27)).setRow w4.heap.size #[.int .u64 (p.x : Nat), .int .u64 (nx.x : Nat), .int .i64 p.n, .int .i64 p.e]).heap[w4.heap.size]? = some (.cells #[.int .u64 (p.x : Nat), .int .u64 (nx.x : Nat), .int .i64 p.n, .int .i64 p.e] 27) := bx_row _ (heap_alloc_new w4 _)
        obtain ⟨w7, hw7⟩ : ∃ w7, (w4.alloc (.cells #[.int .u64 0, .int .u64 0, .int .i64 0, .int .i64 0] 27)).setRow w4.heap.size #[.int .u64 (p.x : Nat), .int .u64 (nx.x : Nat), .int .i64 p.n, .int .i64 p.e] = w7 := ⟨_, rfl⟩
        rw [hw7] at B7 h7 ⊢
        rw [hb7] at h7 ⊢
        have HB7 := Lib.hid (acc HB4.out B7)
        have H7 := Lib.hid h7
        have z0 : w7.cell? ⟨b7, 0, none⟩ = some (.int .u64 (p.x : Nat)) := by rw [Lib.cell_of_heap h7]; rfl
        have z1 : w7.cell? ⟨b7, 1, none⟩ = some (.int .u64 (nx.x : Nat)) := by rw [Lib.cell_of_heap h7]; rfl
        have z2 : w7.cell? ⟨b7, 2, none⟩ = some (.int .i64 p.n) := by rw [Lib.cell_of_heap h7]; rfl
        have z3 : w7.cell? ⟨b7, 3, none⟩ = some (.int .i64 p.e) := by rw [Lib.cell_of_heap h7]; rfl
        clear hw7 B7 h7 hb7 x0 x1 x3 y0
        have HXK : Hid ((arcsP P)[k]? = some (AO.mk p.x nx.x p.n p.e) ∧ (arcsP P).drop (k + 1) = arcsR (nxh 0 P) (P.drop (i + 1)) ∧ k + 1 ≤ (arcsP P).length) := by
          have h1 := HX.out.1
          rw [HAR.out] at h1
          have h2 : (arcsP P)[k]? = some (AO.mk p.x nx.x p.n p.e) := by
            have h3 : ((arcsP P).drop k)[0]? = some (AO.mk p.x nx.x p.n p.e) := by rw [h1]; rfl
            rw [List.getElem?_drop] at h3
            exact h3
          refine ⟨h2, ?_, ?_⟩
          · have h3 := congrArg (List.drop 1) h1
            rw [List.drop_drop] at h3
            exact h3
          · have := (List.getElem?_eq_some_iff.1 h2).1
            omega
        have HJ7 : Hid (J k w7 Y) := HJ.out k wr w7 Y [] HJi.out (Touch.ofBelow HB7.out) (by simp)
        have HY7 : Hid (∀ q ∈ Y, q < w7.heap.size) := fun q hq => Nat.lt_of_lt_of_le (HL.out.2 q hq).1 HB7.out.size
        clear hsz hszp hold hone hszq hszr holq honq hsza hola hona hm1 hm2
        have hY1 := HR.out k (AO.mk p.x nx.x p.n p.e) w7 Y HXK.out.1 HJ7.out HY7.out
        obtain ⟨fn, tmps, assign, body, hy, hr⟩ := hY1
        have HRR := Lib.hid hr
        clear hr
        have hne : ∀ w, (binOp .eql 33 (.func (.yield l) #[] #[]) .nilFunc).run Try.prog w = .ok (.bool false) w := fun w => run_eql_func w _ _ _ _ Try.underlying33
        refine (wpIn_wide (n := 0)).1 ?_
        gi_wp2
        refine ⟨rfl, ?_⟩
        refine (RoundIn.deep HRR.out).mono ?_
        rintro e w8 ⟨Y2, hL2, (⟨rfl, hj⟩ | ⟨rfl, hq⟩)⟩
        · have hL3 : Left F Y wr w8 Y2 := Left.after HB7.out hL2
          obtain ⟨hr3, hn3⟩ := left_row hL3 HRW.out HA.out
          have HL3 := Lib.hid (HL.out.trans hL3)
          have HR3 := Lib.hid hr3
          have HN3 := Lib.hid hn3
          have HJ3 := Lib.hid hj
          clear hL2 hL3 hr3 hn3 hj hy
          gi_wp2
          go_wp2_with fail
          go_roundg (gk - 1)
          case measure => omega
          case rel => exact ⟨i + 1, k + 1, Y2, by omega, by omega, by go_num, HJ3, HL3, HR3, HN3, HXK.out.2⟩
        · have hL3 : Left F Y wr w8 Y2 := Left.after HB7.out hL2
          clear hy
          gi_wp2
          go_wp2_with fail
          refine bodyPost_ret (results_none rfl _ _ _) rfl ?_
          exact ⟨rfl, Y2, HL.out.trans hL3, .inr hq⟩
    · obtain rfl : i = n1 := by omega
      have HLZ : Hid (k = (arcsP P).length) := by
        have h1 := HX.out.1
        rw [List.drop_of_length_le (l := P) (by rw [HN1.out]; exact Nat.le_refl _)] at h1
        have h2 : (arcsP P).length ≤ k := List.drop_eq_nil_iff.1 h1
        exact Nat.le_antisymm HX.out.2 h2
      go_wp2_with fail
      go_end0
      exact ⟨rfl, Y, HL.out, .inl (by rw [← HLZ.out]; exact HJi.out)⟩
set_option maxRecDepth 100000 in
set_option maxHeartbeats 8000000 in
theorem partsTour {W : World} {g n c : Nat} {A : Option Addr} {P : List PT} {F : List Nat} (hF : ∀ q ∈ F, q < W.heap.size) (hv : Var W g (.slice A n c)) (h4 : (A = none ∧ n = 0 ∧ c = 0 ∧ P = [PT0] ∧ F = [g]) ∨ (∃ q, A = some ⟨q, 0, none⟩ ∧ PtRow W 0 (.slice A n c) n P ∧ q ≠ g ∧ F = [g, q]))
    {b : Nat} (hc : W.cell? ⟨b, 0, none⟩ = some (.pointer (some ⟨g, 0, none⟩))) :
    Tour 35 #[.pointer (some ⟨b, 0, none⟩)] encO (arcsP P) F W := by
  intro y yf yc hi J Q Y0 hY0 h0 hJ _hQ hR
  have H0 := Lib.hid h0
  have HJ := Lib.hid hJ
  have HR := Lib.hid hR
  have HY0 := Lib.hid hY0
  have HF := Lib.hid hF
  have CR := Lib.hid (ring_any hv h4)
  have c1 := hc
  clear h0 hJ hR hY0 hF hv h4
  go_enter Try.func35, Try.ntmps35
  go_wp2_with (go_at_call 19; (with_reducible refine (CR.out).mono ?_); rintro e w1 ⟨A1, n1, k1, rfl, hr1, hq1, hb1⟩; have hn1 := pr_len hr1; have hbig := pr_big hr1; have HR1 := Lib.hid hr1; have HQ1 := Lib.hid hq1; have HB1 := Lib.hid hb1; clear hr1 hq1 hb1)
  clear CR c1 hc
  have HN1 := Lib.hid hn1
  clear hn1
  go_loopg [12] (n1 + 1) (fun gh s12 wx => ∃ i k Y, i + gh = n1 + 1 ∧ i ≤ n1 ∧ s12 = .int .i64 (i : Nat) ∧ Hid (J k wx Y) ∧ Hid (Left [] Y0 W wx Y) ∧ Hid (PtRow wx 0 (.slice A1 n1 k1) n1 P) ∧ Hid (∀ q, (Value.slice A1 n1 k1).ownBlock = some q → q ∈ [] ∨ q ∉ Y) ∧ Hid ((arcsP P).drop k = arcsR (nxh 0 P) (P.drop i) ∧ k ≤ (arcsP P).length))
  case atStart =>
    refine ⟨0, 0, Y0, by omega, by omega, rfl, HJ.out 0 W w1 Y0 [] H0.out (Touch.ofBelow HB1.out) (by simp), ⟨⟨[], Touch.ofBelow HB1.out, by simp⟩, fun q hq => ⟨Nat.lt_of_lt_of_le (HY0.out q hq).1 HB1.out.size, .inl hq⟩⟩, HR1.out, fun q hq => ?_, ⟨rfl, Nat.zero_le _⟩⟩
    rcases HQ1.out q hq with z | z
    · exact .inr fun y => (HY0.out q y).2 z
    · exact .inr fun y => by have := (HY0.out q y).1; omega
  case round =>
    obtain ⟨i, k, Y, hig, hi, rfl, HJi, HL, HRW, HA, HX⟩ := hrel
    by_cases hlt : i < n1
    · obtain ⟨q, rfl⟩ := pr_at HRW.out (by omega)
      obtain ⟨p, hp⟩ : ∃ p, P[i]? = some p := ⟨_, List.getElem?_eq_getElem (by rw [HN1.out]; exact hlt)⟩
      have HRA := Lib.hid (pr_range HRW.out hp)
      have HDR : Hid (P.drop i = p :: P.drop (i + 1)) := by
        obtain ⟨hl, rfl⟩ := List.getElem?_eq_some_iff.1 hp
        exact List.drop_eq_getElem_cons hl
      have i1 : (i : Int) < (n1 : Int) := by omega
      have hsz : (Try.prog.info? 50).map (·.size) = some p.cells.toList.length := pt_info
      have hszp : (Try.prog.info? 50).map (·.size) = some p.cells.size := pt_info
      have hold : (#[.int .u64 0, .int .i64 0, .int .i64 0] : Array Value).size = p.cells.size := rfl
      have hone := pt_one p
      clear hp
      go_upto_region 4 with (first
        | (refine wpList_load_mid rfl 50 (.tmp 15) rfl q (i * 3) rfl p.cells.toList _ HRA.out Try.underlying50 rfl hsz ?_)
        | (with_reducible (show wpList _ _ _ (⟨none, Op.store _ (Operand.tmp 5) _, _, _, _, _⟩ :: _) _ _); go_must (refine wpList_store_row rfl 50 (.tmp 5) (.tmp 16) rfl wr.heap.size p.cells rfl rfl 50 #[.int .u64 0, .int .i64 0, .int .i64 0] (heap_alloc_new wr _) hszp hold hone ?_)))
      obtain ⟨b3, hb3⟩ : ∃ b3, wr.heap.size = b3 := ⟨_, rfl⟩
      have B3 := bx_new wr #[.int .u64 0, .int .i64 0, .int .i64 0] p.cells 50
      have h3 : ((wr.alloc (.cells #[.int .u64 0, .int .i64 0, .int .i64 0] 50)).setRow wr.heap.size p.cells).heap[wr.heap.size]? = some (.cells p.cells 50) := bx_row _ (heap_alloc_new wr _)
      obtain ⟨w3, hw3⟩ : ∃ w3, (wr.alloc (.cells #[.int .u64 0, .int .i64 0, .int .i64 0] 50)).setRow wr.heap.size p.cells = w3 := ⟨_, rfl⟩
      rw [hw3] at B3 h3 ⊢
      rw [hb3] at h3 ⊢
      have HB3 := Lib.hid B3
      have H3 := Lib.hid h3
      have x2 : w3.cell? ⟨b3, 2, none⟩ = some (.int .i64 p.e) := by rw [Lib.cell_of_heap h3]; rfl
      clear hw3 B3 h3 hb3 HRA
      cases d4 : (p.e == -1) with
      | true =>
        have he : p.e = -1 := of_decide_eq_true d4
        have HAR : Hid (arcsR (nxh 0 P) (P.drop i) = arcsR (nxh 0 P) (P.drop (i + 1))) := by
          show arcsR (nxh 0 P) (P.drop i) = _
          rw [HDR.out, arcsR, if_pos he]
        have hL3 : Left [] Y wr w3 Y := ⟨⟨[], Touch.ofBelow HB3.out, by simp⟩, fun q hq => ⟨Nat.lt_of_lt_of_le (HL.out.2 q hq).1 HB3.out.size, .inl hq⟩⟩
        have HL3 := Lib.hid (HL.out.trans hL3)
        have HR3 := Lib.hid (pr_below HRW.out HB3.out)
        have HJ3 : Hid (J k w3 Y) := HJ.out k wr w3 Y [] HJi.out (Touch.ofBelow HB3.out) (by simp)
        clear he hL3
        go_wp2_with fail
        go_roundg (gk - 1)
        case measure => omega
        case rel => exact ⟨i + 1, k, Y, by omega, by omega, by go_num, HJ3, HL3, HR3, HA, by rw [← HAR.out]; exact HX⟩
      | false =>
        have he : ¬ p.e = -1 := of_decide_eq_false d4
        obtain ⟨nx, hnx, hnx2⟩ := nxt_at HN1.out hlt
        obtain ⟨m, hm⟩ : ∃ m, (i + 1) % n1 = m := ⟨_, rfl⟩
        have hm1 : m < n1 := by rw [← hm]; exact Nat.mod_lt _ (by omega)
        have hm2 : ((i : Int) + 1) % (n1 : Int) = (m : Nat) := by rw [← hm]; rfl
        rw [hm] at hnx
        have HAR : Hid (arcsR (nxh 0 P) (P.drop i) = ⟨p.x, nx.x, p.n, p.e⟩ :: arcsR (nxh 0 P) (P.drop (i + 1))) := by
          show arcsR (nxh 0 P) (P.drop i) = _
          rw [HDR.out, arcsR, if_neg he, hnx2]
        have HRB := Lib.hid (pr_range (pr_below HRW.out HB3.out) hnx)
        have hszq : (Try.prog.info? 50).map (·.size) = some nx.cells.toList.length := pt_info
        have hszr : (Try.prog.info? 50).map (·.size) = some nx.cells.size := pt_info
        have holq : (#[.int .u64 0, .int .i64 0, .int .i64 0] : Array Value).size = nx.cells.size := rfl
        have honq := pt_one nx
        clear he hnx hnx2 hm x2
        have x2 : w3.cell? ⟨b3, 2, none⟩ = some (.int .i64 p.e) := by rw [Lib.cell_of_heap H3.out]; rfl
        go_upto_region 6 with (first
          | (refine wpList_load_mid rfl 50 (.tmp 26) rfl q (m * 3) rfl nx.cells.toList _ HRB.out Try.underlying50 rfl hszq ?_)
          | (with_reducible (show wpList _ _ _ (⟨none, Op.store _ (Operand.tmp 6) _, _, _, _, _⟩ :: _) _ _); go_must (refine wpList_store_row rfl 50 (.tmp 6) (.tmp 27) rfl w3.heap.size nx.cells rfl rfl 50 #[.int .u64 0, .int .i64 0, .int .i64 0] (heap_alloc_new w3 _) hszr holq honq ?_)))
        obtain ⟨b4, hb4⟩ : ∃ b4, w3.heap.size = b4 := ⟨_, rfl⟩
        have B4 := bx_new w3 #[.int .u64 0, .int .i64 0, .int .i64 0] nx.cells 50
        have h5 : ((w3.alloc (.cells #[.int .u64 0, .int .i64 0, .int .i64 0] 50)).setRow w3.heap.size nx.cells).heap[w3.heap.size]? = some (.cells nx.cells 50) := bx_row _ (heap_alloc_new w3 _)
        obtain ⟨w4, hw4⟩ : ∃ w4, (w3.alloc (.cells #[.int .u64 0, .int .i64 0, .int .i64 0] 50)).setRow w3.heap.size nx.cells = w4 := ⟨_, rfl⟩
        rw [hw4] at B4 h5 ⊢
        rw [hb4] at h5 ⊢
        have HB4 := Lib.hid (acc HB3.out B4)
        have h6 := (B4.block b3 (bx_lt H3.out)).trans H3.out
        have x0 : w4.cell? ⟨b3, 0, none⟩ = some (.int .u64 (p.x : Nat)) := by rw [Lib.cell_of_heap h6]; rfl
        have x1 : w4.cell? ⟨b3, 1, none⟩ = some (.int .i64 p.n) := by rw [Lib.cell_of_heap h6]; rfl
        have x3 : w4.cell? ⟨b3, 2, none⟩ = some (.int .i64 p.e) := by rw [Lib.cell_of_heap h6]; rfl
        have y0 : w4.cell? ⟨b4, 0, none⟩ = some (.int .u64 (nx.x : Nat)) := by rw [Lib.cell_of_heap h5]; rfl
        clear hw4 B4 h5 hb4 HRB h6 x2
        have hsza : (Try.prog.info? 27).map (·.size) = some (#[.int .u64 (p.x : Nat), .int .u64 (nx.x : Nat), .int .i64 p.n, .int .i64 p.e] : Array Value).size := ao_info4
        have hola : (#[.int .u64 0, .int .u64 0, .int .i64 0, .int .i64 0] : Array Value).size = (#[.int .u64 (p.x : Nat), .int .u64 (nx.x : Nat), .int .i64 p.n, .int .i64 p.e] : Array Value).size := rfl
        have hona : (#[.int .u64 (p.x : Nat), .int .u64 (nx.x : Nat), .int .i64 p.n, .int .i64 p.e] : Array Value).all (·.oneCell') = true := ao_one4 ⟨p.x, nx.x, p.n, p.e⟩
        go_upto_region 7 with (with_reducible (show wpList _ _ _ (⟨none, Op.store _ (Operand.tmp 7) _, _, _, _, _⟩ :: _) _ _); go_must (refine wpList_store_row rfl 27 (.tmp 7) (.tmp 37) rfl w4.heap.size #[.int .u64 (p.x : Nat), .int .u64 (nx.x : Nat), .int .i64 p.n, .int .i64 p.e] rfl rfl 27 #[.int .u64 0, .int .u64 0, .int .i64 0, .int .i64 0] (heap_alloc_new w4 _) hsza hola hona ?_))
        obtain ⟨b7, hb7⟩ : ∃ b7, w4.heap.size = b7 := ⟨_, rfl⟩
        have B7 := bx_new w4 #[.int .u64 0, .int .u64 0, .int .i64 0, .int .i64 0] #[.int .u64 (p.x : Nat), .int .u64 (nx.x : Nat), .int .i64 p.n, .int .i64 p.e] 27
        have h7 : ((w4.alloc (.cells #[.int .u64 0, .int .u64 0, .int .i64 0, .int .i64 0] 27)).setRow w4.heap.size #[.int .u64 (p.x : Nat), .int .u64 (nx.x : Nat), .int .i64 p.n, .int .i64 p.e]).heap[w4.heap.size]? = some (.cells #[.int .u64 (p.x : Nat), .int .u64 (nx.x : Nat), .int .i64 p.n, .int .i64 p.e] 27) := bx_row _ (heap_alloc_new w4 _)
        obtain ⟨w7, hw7⟩ : ∃ w7, (w4.alloc (.cells #[.int .u64 0, .int .u64 0, .int .i64 0, .int .i64 0] 27)).setRow w4.heap.size #[.int .u64 (p.x : Nat), .int .u64 (nx.x : Nat), .int .i64 p.n, .int .i64 p.e] = w7 := ⟨_, rfl⟩
        rw [hw7] at B7 h7 ⊢
        rw [hb7] at h7 ⊢
        have HB7 := Lib.hid (acc HB4.out B7)
        have H7 := Lib.hid h7
        have z0 : w7.cell? ⟨b7, 0, none⟩ = some (.int .u64 (p.x : Nat)) := by rw [Lib.cell_of_heap h7]; rfl
        have z1 : w7.cell? ⟨b7, 1, none⟩ = some (.int .u64 (nx.x : Nat)) := by rw [Lib.cell_of_heap h7]; rfl
        have z2 : w7.cell? ⟨b7, 2, none⟩ = some (.int .i64 p.n) := by rw [Lib.cell_of_heap h7]; rfl
        have z3 : w7.cell? ⟨b7, 3, none⟩ = some (.int .i64 p.e) := by rw [Lib.cell_of_heap h7]; rfl
        clear hw7 B7 h7 hb7 x0 x1 x3 y0
        have HXK : Hid ((arcsP P)[k]? = some (AO.mk p.x nx.x p.n p.e) ∧ (arcsP P).drop (k + 1) = arcsR (nxh 0 P) (P.drop (i + 1)) ∧ k + 1 ≤ (arcsP P).length) := by
          have h1 := HX.out.1
          rw [HAR.out] at h1
          have h2 : (arcsP P)[k]? = some (AO.mk p.x nx.x p.n p.e) := by
            have h3 : ((arcsP P).drop k)[0]? = some (AO.mk p.x nx.x p.n p.e) := by rw [h1]; rfl
            rw [List.getElem?_drop] at h3
            exact h3
          refine ⟨h2, ?_, ?_⟩
          · have h3 := congrArg (List.drop 1) h1
            rw [List.drop_drop] at h3
            exact h3
          · have := (List.getElem?_eq_some_iff.1 h2).1
            omega
        have HJ7 : Hid (J k w7 Y) := HJ.out k wr w7 Y [] HJi.out (Touch.ofBelow HB7.out) (by simp)
        have HY7 : Hid (∀ q ∈ Y, q < w7.heap.size) := fun q hq => Nat.lt_of_lt_of_le (HL.out.2 q hq).1 HB7.out.size
        clear hsz hszp hold hone hszq hszr holq honq hsza hola hona hm1 hm2
        have hne : ∀ w, (binOp .eql 33 (.func (.func y) yf yc) .nilFunc).run Try.prog w = .ok (.bool false) w := fun w => run_eql_func w _ _ _ _ Try.underlying33
        have HC := Lib.hid (HR.out k (AO.mk p.x nx.x p.n p.e) w7 Y HXK.out.1 HJ7.out HY7.out)
        go_wp2
        refine HC.out.mono ?_
        rintro e w8 ⟨Y2, hL2, (⟨rfl, hj⟩ | ⟨rfl, hq⟩)⟩
        · have hL3 : Left [] Y wr w8 Y2 := Left.after HB7.out hL2
          obtain ⟨hr3, hn3⟩ := left_row hL3 HRW.out HA.out
          have HL3 := Lib.hid (HL.out.trans hL3)
          have HR3 := Lib.hid hr3
          have HN3 := Lib.hid hn3
          have HJ3 := Lib.hid hj
          clear hL2 hL3 hr3 hn3 hj
          go_wp2_with fail
          go_roundg (gk - 1)
          case measure => omega
          case rel => exact ⟨i + 1, k + 1, Y2, by omega, by omega, by go_num, HJ3, HL3, HR3, HN3, HXK.out.2⟩
        · have hL3 : Left [] Y wr w8 Y2 := Left.after HB7.out hL2
          go_wp2_with fail
          refine bodyPost_ret (results_none rfl _ _ _) rfl ?_
          exact ⟨rfl, Y2, HL.out.trans hL3, .inr hq⟩
    · obtain rfl : i = n1 := by omega
      have HLZ : Hid (k = (arcsP P).length) := by
        have h1 := HX.out.1
        rw [List.drop_of_length_le (l := P) (by rw [HN1.out]; exact Nat.le_refl _)] at h1
        have h2 : (arcsP P).length ≤ k := List.drop_eq_nil_iff.1 h1
        exact Nat.le_antisymm HX.out.2 h2
      go_wp2_with fail
      go_end0
      exact ⟨rfl, Y, HL.out, .inl (by rw [← HLZ.out]; exact HJi.out)⟩
end Go.Proofs.Ythjhfnbcfgkehaa
