/-
  Take, Drop, Twice.
-/
import Derived.Test.YtokgamagiffaeaaBagPut
namespace Go.Proofs.Ytokgamagiffaeaa
open Go.RowKit

theorem bg_none {W : World} {c n : Nat} {xs : List Value} {base e size : Nat} (h : W.ownsRow base e size (.slice none n c) n xs) : n = 0 := by
  rcases h.2 with ⟨h0, _⟩ | ⟨g, cap, cur, h0, _⟩
  · injection h0 with _ h1 _
  · cases h0
theorem bg_at {W : World} {A : Option Addr} {n c : Nat} {xs : List Value} {base e size : Nat} (h : W.ownsRow base e size (.slice A n c) n xs) (hn : 0 < n) : ∃ q, A = some ⟨q, 0, none⟩ := by
  rcases h.2 with ⟨h0, _⟩ | ⟨g, cap, cur, h0, _⟩
  · injection h0 with _ h1 _; omega
  · injection h0 with h1 _ _; exact ⟨g, h1⟩
theorem bg_range {W : World} {q c n k : Nat} {ps : List Pk} (h : W.ownsRow 0 38 25 (.slice (some ⟨q, 0, none⟩) n c) n (pkCells ps)) (hn : ps.length = n) {p : Pk} (hk : ps[k]? = some p) : W.rangeAt q (k * 25) p.cells.toList := by
  intro j v hj
  obtain ⟨hlt, rfl⟩ := List.getElem?_eq_some_iff.1 hk
  have hj25 : j < 25 := (List.getElem?_eq_some_iff.1 hj).1
  have := h.cellAt (k * 25 + j) (by omega)
  rw [this, pkCells_get ps k j hlt hj25, ← Array.getElem?_toList]
  exact hj

set_option maxRecDepth 20000 in
set_option maxHeartbeats 2000000 in
theorem takeNot_any {W : World} {g m : Nat} {ps : List Pk} {F : List Nat} (h : BG W g m ps F) (k : Int) (hk : ¬ (0 ≤ k ∧ k < (ps.length : Int))) :
    Calls Try.prog 13 #[.pointer (some ⟨g, 0, none⟩), .int .i64 k] W fun e w' => e = .returned (.tuple #[.agg Pk.zero.cells, .bool false]) ∧ Below W.heap.size W w' := by
  have B1 : Below W.heap.size W (W.alloc (.cells Pk.zero.cells 38)) := (Below.refl _ _).alloc (Nat.le_refl _) _
  have b1 : (W.alloc (.cells Pk.zero.cells 38)).heap[W.heap.size]? = some (.cells Pk.zero.cells 38) := heap_alloc_new W _
  have hc := has_any (h.below B1) k
  rw [decide_eq_false hk] at hc
  have hsz : (Try.prog.info? 38).map (·.size) = some Pk.zero.cells.size := bg_infoP
  have hone := Pk.zero.one
  have HB1 := Lib.hid B1
  have Hb1 := Lib.hid b1
  have HC := Lib.hid hc
  clear h hk B1 b1 hc
  go_enter Try.func13, Try.ntmps13
  go_wp2_with (first
    | (go_at_call 19; ((with_reducible refine (HC.out).mono ?_); rintro e w9 ⟨rfl, rfl⟩))
    | (with_reducible (show wpList _ _ _ (⟨none, Op.store _ (Operand.tmp 4) _, _, _, _, _⟩ :: _) _ _); go_must (refine wpList_store_row rfl 38 (.tmp 4) (.tmp 11) rfl W.heap.size Pk.zero.cells rfl rfl 38 Pk.zero.cells Hb1.out hsz rfl hone ?_)))
  refine bodyPost_ret (bg_results rfl _ _ W.heap.size Pk.zero.cells (.bool false) rfl rfl (bg_loadVar _ _ _ rfl (bg_row _ Hb1.out))) rfl ?_
  exact ⟨rfl, HB1.out.trans (bg_below _ (Nat.le_refl _))⟩

set_option maxRecDepth 20000 in
set_option maxHeartbeats 4000000 in
theorem take_any {W : World} {g m : Nat} {ps : List Pk} {F : List Nat} (h : BG W g m ps F) (k : Nat) {p : Pk} (hk : ps[k]? = some p) :
    Calls Try.prog 13 #[.pointer (some ⟨g, 0, none⟩), .int .i64 (k : Nat)] W fun e w' => e = .returned (.tuple #[.agg p.cells, .bool true]) ∧ BStep W w' F g m (without ps k) := by
  have hkl : k < ps.length := (List.getElem?_eq_some_iff.1 hk).1
  have B1 : Below W.heap.size W (W.alloc (.cells Pk.zero.cells 38)) := (Below.refl _ _).alloc (Nat.le_refl _) _
  have b1 : (W.alloc (.cells Pk.zero.cells 38)).heap[W.heap.size]? = some (.cells Pk.zero.cells 38) := heap_alloc_new W _
  have hc := has_any (h.below B1) (k : Int)
  rw [decide_eq_true (show (0 : Int) ≤ (k : Int) ∧ (k : Int) < (ps.length : Int) by omega)] at hc
  obtain ⟨A, c, hF, h0, v, kk, r, h1, h2⟩ := h
  obtain ⟨n, hn⟩ : ∃ n, ps.length = n := ⟨_, rfl⟩
  have hgl := v.lt
  rw [hn] at hF h0 v r h1 hkl
  obtain ⟨q, rfl⟩ := bg_at r (by omega)
  have hqg : q ≠ g := fun e => h0 (by rw [e]; simp [Value.ownBlock])
  have hql : q < W.heap.size := (r.lt q rfl).2
  obtain ⟨w1, hw1⟩ : ∃ w1, W.alloc (.cells Pk.zero.cells 38) = w1 := ⟨_, rfl⟩
  have v1 := v.old (.cells Pk.zero.cells 38)
  have kk1 : (W.alloc (.cells Pk.zero.cells 38)).cell? ⟨g, 1, none⟩ = some (.int .i64 (m : Nat)) := (B1.cell (p := ⟨g, 1, none⟩) hgl).trans kk
  have r1 := own_below_ r B1
  have z1 : (W.alloc (.cells Pk.zero.cells 38)).heap.size = W.heap.size + 1 := by simp
  rw [hw1] at B1 b1 hc v1 kk1 r1 z1
  have ra := bg_range r1 hn hk
  have hnc : n ≤ c := by
    obtain ⟨_, _, a, _⟩ := own_raw r1
    exact a
  have HKL := Lib.hid hkl
  have b9 : n ≤ 9223372036854775807 := by omega
  have i1 : (k : Int) < (n : Int) := by omega
  have c1 := v1.val
  have HV := Lib.hid v1
  have HR := Lib.hid r1
  have HRA := Lib.hid ra
  have HC := Lib.hid hc
  have HB1 := Lib.hid B1
  have Hb1 := Lib.hid b1
  have HK := Lib.hid kk1
  have HZ1 := Lib.hid z1
  have HF := Lib.hid hF
  have H0 := Lib.hid h0
  have HN := Lib.hid hn
  have HM := Lib.hid h1
  have HM2 := Lib.hid h2
  have HGL := Lib.hid hgl
  have HQL := Lib.hid hql
  have hsz : (Try.prog.info? 38).map (·.size) = some p.cells.size := bg_infoP
  have HONE := p.one
  have hold : Pk.zero.cells.size = p.cells.size := rfl
  have CO : Hid (∀ w, Calls Try.prog 18 #[.agg p.cells] w fun e w' => e = .returned (.agg p.cells) ∧ Below w.heap.size w w') := fun w => own_any p w
  have CD : Hid (∀ w, w.ownsRow 0 38 25 (.slice (some ⟨q, 0, none⟩) n c) n (pkCells ps) → Calls Try.prog 20 #[.slice (some ⟨q, 0, none⟩) n c, .int .i64 (k : Nat), .int .i64 ((k : Int) + 1)] w fun e w' =>
      e = .returned (.slice (some ⟨q, 0, none⟩) (n - 1) c) ∧ w'.ownsRow 0 38 25 (.slice (some ⟨q, 0, none⟩) (n - 1) c) (n - 1) (pkCells (without ps k)) ∧ w.grownBy w' (some q)) := fun w hw => by
    have hd := delPacks_any q n c k (k + 1) 0 (pkCells ps) w hw (by omega) (by omega) (by omega) (pkCells_all ps)
    rw [pkCells_take, pkCells_drop, ← pkCells_append, show k + (n - (k + 1)) = n - 1 by omega] at hd
    exact hd
  clear B1 b1 hc v kk r h1 h2 hF h0 hn v1 kk1 r1 z1 ra hgl hql hk
  go_enter Try.func13, Try.ntmps13
  go_upto_region 1 with fail
  clear hw1
  go_upto_region 4 with (first
    | (go_at_call 19; ((with_reducible refine (HC.out).mono ?_); rintro e w9 ⟨rfl, rfl⟩))
    | (refine wpList_load_mid rfl 38 (.tmp 17) rfl q (k * 25) rfl p.cells.toList _ HRA.out Try.underlying38 rfl hsz ?_)
    | (go_at_call 18; (with_reducible refine (CO.out _).mono ?_); rintro e w2 ⟨rfl, hb2⟩; have HB2 := Lib.hid hb2; clear hb2)
    | (with_reducible (show wpList _ _ _ (⟨none, Op.store _ (Operand.tmp 6) _, _, _, _, _⟩ :: _) _ _); go_must (refine wpList_store_row rfl 38 (.tmp 6) (.tmp 19) rfl w2.heap.size p.cells rfl rfl 38 Pk.zero.cells (heap_alloc_new w2 _) hsz hold HONE ?_)))
  have B23 := bg_new w2 Pk.zero.cells p.cells 38
  have r6 : ((w2.alloc (.cells Pk.zero.cells 38)).setRow w2.heap.size p.cells).heap[w2.heap.size]? = some (.cells p.cells 38) := bg_row _ (heap_alloc_new w2 _)
  obtain ⟨b6, hb6⟩ : ∃ b6, w2.heap.size = b6 := ⟨_, rfl⟩
  have Z2 := Lib.hid (show W.heap.size + 1 ≤ b6 by have := HB2.out.size; have := HZ1.out; omega)
  obtain ⟨w3, hw3⟩ : ∃ w3, (w2.alloc (.cells Pk.zero.cells 38)).setRow w2.heap.size p.cells = w3 := ⟨_, rfl⟩
  rw [hw3] at B23 r6 ⊢
  clear hw3
  rw [hb6] at r6 ⊢
  clear hb6
  have B93 : Below w9.heap.size w9 w3 := acc HB2.out B23
  have V3 := HV.out.below B93
  have K3 : w3.cell? ⟨g, 1, none⟩ = some (.int .i64 (m : Nat)) := (B93.cell (p := ⟨g, 1, none⟩) HV.out.lt).trans HK.out
  have R3 := own_below_ HR.out B93
  have r4 : w3.heap[W.heap.size]? = some (.cells Pk.zero.cells 38) := (B93.block _ (bg_lt Hb1.out)).trans Hb1.out
  have BW3 : Below W.heap.size W w3 := acc HB1.out B93
  have c3 := V3.val
  have HV3 := Lib.hid V3
  have HK3 := Lib.hid K3
  have HR3 := Lib.hid R3
  have H4 := Lib.hid r4
  have H6 := Lib.hid r6
  have HB3 := Lib.hid BW3
  clear B23 B93 V3 K3 R3 r4 r6 BW3 HB1 Hb1 HB2 HK HR HV HRA HC HZ1 c1
  have hk1 : IntKind.i64.wrap ((k : Int) + 1) = (k : Int) + 1 := by rw [IntKind.wrap_i64]; omega
  go_upto_region 5 with (go_at_call 20; (with_reducible refine (CD.out _ HR3.out).mono ?_); rintro e w4 ⟨rfl, ho4, hg4⟩; have t4 : Touch [q] w3 w4 := (Touch.refl _ _).grown hg4 (fun x hx => .inl (by simp [Option.some.inj hx])); have hv4 := HV3.out.touch t4 (by simp; exact fun e => hqg e.symm); have e4 := hv4.val; have f4 := hv4.free; have HV4 := Lib.hid hv4; have HO4 := Lib.hid ho4; have HG4 := Lib.hid hg4; have HT4 := Lib.hid t4; clear t4 hv4 ho4 hg4)
  have hst := bag_set_at (W := W) (m := m) HF.out H0.out HV3.out HK3.out (by rw [without_length (by rw [HN.out]; exact HKL.out), HN.out]) HGL.out (Touch.ofBelow HB3.out) HG4.out HO4.out (fun q hq => .inl hq) (by rw [without_length (by rw [HN.out]; exact HKL.out), HN.out]; have := HM.out; omega) HM2.out
  have T5 : Touch [q, g] w3 (w4.setCell ⟨g, 0, none⟩ (.slice (some ⟨q, 0, none⟩) (n - 1) c)) := (HT4.out.mono (by simp)).set (.inl (by simp)) _
  have x6 := bg_lt H6.out
  have x4 := bg_lt H4.out
  have y6 := (T5.block b6 x6 (by have := Z2.out; have := HGL.out; have := HQL.out; simp; omega)).trans H6.out
  have y4 := (T5.block W.heap.size x4 (by have := HGL.out; have := HQL.out; simp; omega)).trans H4.out
  have HST := Lib.hid hst
  obtain ⟨w5, hw5⟩ : ∃ w5, w4.setCell ⟨g, 0, none⟩ (.slice (some ⟨q, 0, none⟩) (n - 1) c) = w5 := ⟨_, rfl⟩
  rw [hw5] at HST y6 y4 ⊢
  clear hw5 hst T5 x6 x4 e4 f4
  go_wp2_with (first
    | (with_reducible (show wpList _ _ _ (⟨some 31, Op.load _ _, _, _, _, _⟩ :: _) _ _); go_must (refine wpList_load_row rfl 38 (.tmp 6) rfl b6 rfl 38 p.cells (0, 0) _ y6 Try.underlying38 rfl hsz ?_))
    | (with_reducible (show wpList _ _ _ (⟨none, Op.store _ (Operand.tmp 4) _, _, _, _, _⟩ :: _) _ _); go_must (refine wpList_store_row rfl 38 (.tmp 4) (.tmp 31) rfl W.heap.size p.cells rfl rfl 38 Pk.zero.cells y4 hsz hold HONE ?_)))
  refine bodyPost_ret (bg_results rfl _ _ W.heap.size p.cells (.bool true) rfl rfl (bg_loadVar _ _ _ rfl (bg_row _ y4))) rfl ?_
  obtain ⟨s1, s2, s3⟩ := HST.out
  refine ⟨rfl, s1.trans (bg_touch w5 _ _) (fun x hx => .inr (by simp at hx; omega)), _, s2.touch (bg_touch w5 _ _) (fun x hx z => ?_), s3⟩
  have z1 := HGL.out
  have z2 := HQL.out
  simp [Value.ownBlock] at hx z
  omega
end Go.Proofs.Ytokgamagiffaeaa
