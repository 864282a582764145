/-
  The document's gate: Tick.
-/
import Derived.Test.YtompbhkmaalioaaGateRef
import Derived.Deep.DeepCutAuto
namespace Go.Proofs.Ytompbhkmaalioaa
open Go.RowKit

set_option maxRecDepth 20000 in
set_option maxHeartbeats 4000000 in
theorem refTick_any {W : World} {r : Nat} {b : Bool} {f t : Nat} {l : List GP} {V : Value} (h : RG W r b f t l V) (hl : l.length ≤ 100000) (hp : ∀ p ∈ l, p.Fit) :
    Calls Try.prog 13 #[.pointer (some ⟨r, 0, none⟩)] W fun e w' => ∃ V', e = .returned (.tuple #[]) ∧ RG w' r b f t (agedL l) V' ∧ Touch [r] W w' ∧ ∀ q, V'.ownBlock = some q → W.heap.size ≤ q := by
  obtain ⟨i0, z0, hi0, hz, hsL, hbL, hzc⟩ := infoGP_
  have hsz : ∀ p : GP, (Try.prog.info? 56).map (·.size) = some [(.int .u64 (p.f : Nat) : Value), .int .u64 (p.t : Nat), .int .i64 p.n, .int .i64 (p.g : Nat)].length := fun p => by show _ = some 4; kernel_rfl
  have hsz2 : ∀ p : GP, (Try.prog.info? 56).map (·.size) = some (#[(.int .u64 (p.f : Nat) : Value), .int .u64 (p.t : Nat), .int .i64 p.n, .int .i64 ((p.g : Int) + 1)]).size := fun p => by show _ = some 4; kernel_rfl
  obtain ⟨n, hn⟩ : ∃ n, l.length = n := ⟨_, rfl⟩
  have hv := h.v
  rw [hn] at hv
  obtain ⟨A, c, rfl⟩ := own_slice hv
  have c3 : Hid (∀ w, Below W.heap.size W w → w.cell? ⟨r, 3, none⟩ = some (.slice A n c)) := fun w hb => (hb.cell (p := ⟨r, 3, none⟩) h.lt).trans (rg_cell h.hg rfl)
  have f3 : Hid (∀ w, Below W.heap.size W w → w.frozen? ⟨r, 3, none⟩ = false) := fun w hb => Lib.frozen_of_heap ((hb.block r h.lt).trans h.hg) 3
  have hts : Hid (∀ j (hj : j < l.length), agedL (l.take (j + 1)) = if l[j].g + 1 < 40 then agedL (l.take j) ++ [⟨l[j].f, l[j].t, l[j].n, l[j].g + 1⟩] else agedL (l.take j)) := fun j hj => by
    rw [List.take_succ_eq_append_getElem hj, agedL_snoc]
  have HO := Lib.hid hv
  have HN := Lib.hid hn
  have HR := Lib.hid h
  have HP := Lib.hid hp
  rw [hn] at hl
  clear h hv hn hp
  go_enter Try.func13, Try.ntmps13
  go_wp2
  go_loopg [2, 3, 4] (n + 1) (fun gh s2 s3 s4 wx => ∃ (i : Nat) (B : Option Addr) (m d : Nat), i + gh = n + 1 ∧ i ≤ n ∧ s3 = .int .i64 (i : Nat) ∧ s2 = .slice B m d ∧ m ≤ i ∧ (agedL (l.take i)).length = m ∧ Hid (wx.ownsRow W.heap.size 56 4 (.slice B m d) m (gpC (agedL (l.take i)))) ∧ Hid (Below W.heap.size W wx))
  case atStart => exact ⟨0, none, 0, 0, by omega, by omega, rfl, rfl, by omega, rfl, World.ownsRow_nil _ _ _ _, Below.refl _ _⟩
  case round =>
    obtain ⟨i, B, m, d, hig, hi, rfl, rfl, hmi, hm, HL, HB⟩ := hrel
    have HM := Lib.hid hm
    have b3 := c3.out wr HB.out
    clear hm
    by_cases hlt : i < n
    · have i1 : (i : Int) < (n : Int) := by omega
      have zi : IntKind.i64.wrap ((i : Int) + 1) = (i : Int) + 1 := by rw [IntKind.wrap_i64]; omega
      have hj : i < l.length := by rw [HN.out]; omega
      obtain ⟨q, hq⟩ := gate_at HO.out (by omega)
      obtain rfl := hq
      have hst := hts.out i hj
      have hfit := HP.out _ (List.getElem_mem hj)
      have HRA : Hid (wr.rangeAt q (i * 4) (l[i]).cells.toList) := fun j v hv => by
        have hj4 : j < 4 := by have := (List.getElem?_eq_some_iff.1 hv).1; simpa using this
        have z := HO.out.cells (g := q) rfl (i * 4 + j) v (by rw [rowC_get gp_size l i j l[i] (List.getElem?_eq_getElem hj) hj4]; simpa using hv)
        rw [Go.WideShapes.add_plain, Nat.zero_add] at z
        exact (HB.out.cell (p := ⟨q, i * 4 + j, none⟩) (HO.out.lt q rfl).2).trans z
      generalize l[i] = p at *
      have zy : IntKind.i64.wrap ((p.g : Int) + 1) = (p.g : Int) + 1 := by have := hfit.2.2; rw [IntKind.wrap_i64]; omega
      by_cases hy : p.g + 1 < 40
      · have dy : decide ((p.g : Int) + 1 < 40) = true := decide_eq_true (by omega)
        rw [if_pos hy] at hst
        have HST := Lib.hid hst
        clear hst
        go_upto_region 5 with (with_reducible (show wpList _ _ _ (⟨some 20, Op.load _ _, _, _, _, _⟩ :: _) _ _); go_must (refine wpList_load_mid rfl 56 (.tmp 19) rfl q (i * 4) rfl [.int .u64 (p.f : Nat), .int .u64 (p.t : Nat), .int .i64 p.n, .int .i64 (p.g : Nat)] _ HRA.out Try.underlying56 rfl (hsz p) ?_))
        have hrow : (wr.alloc (.cells #[.int .u64 (p.f : Nat), .int .u64 (p.t : Nat), .int .i64 p.n, .int .i64 ((p.g : Int) + 1)] 56)).heap[wr.heap.size]? = some (.cells #[.int .u64 (p.f : Nat), .int .u64 (p.t : Nat), .int .i64 p.n, .int .i64 ((p.g : Int) + 1)] 56) := heap_alloc_new _ _
        have HRW := Lib.hid hrow
        have B1 : Hid (Below W.heap.size W (wr.alloc (.cells #[.int .u64 (p.f : Nat), .int .u64 (p.t : Nat), .int .i64 p.n, .int .i64 ((p.g : Int) + 1)] 56))) := HB.out.alloc HB.out.size _
        have HL1 : Hid ((wr.alloc (.cells #[.int .u64 (p.f : Nat), .int .u64 (p.t : Nat), .int .i64 p.n, .int .i64 ((p.g : Int) + 1)] 56)).ownsRow W.heap.size 56 4 (.slice B m d) m (gpC (agedL (l.take i)))) := HL.out.alloc _
        clear hrow
        go_upto_region 7 with fail
        obtain ⟨wb, hwb⟩ : ∃ wb, wr.alloc (.cells #[.int .u64 (p.f : Nat), .int .u64 (p.t : Nat), .int .i64 p.n, .int .i64 ((p.g : Int) + 1)] 56) = wb := ⟨_, rfl⟩
        rw [hwb] at HRW B1 HL1 ⊢
        clear hwb b3
        go_wp2_with (first
          | (with_reducible (show wpList _ _ _ (⟨some 29, Op.load _ _, _, _, _, _⟩ :: _) _ _); go_must (refine wpList_load_row rfl 56 (.tmp 4) rfl wr.heap.size rfl 56 #[.int .u64 (p.f : Nat), .int .u64 (p.t : Nat), .int .i64 p.n, .int .i64 ((p.g : Int) + 1)] (0, 0) _ HRW.out Try.underlying56 rfl (hsz2 p) ?_))
          | (at_builtin; go_must (refine wpList_append_any rfl (.tmp 28) (.tmp 30) 33 rfl W.heap.size 56 i0 z0 4 32 Try.underlying33 hi0 hz hsL hbL hzc (by decide) (.slice B m d) m (gpC (agedL (l.take i))) rfl (HL1.out.alloc _) (.slice (some ⟨wb.heap.size, 0, none⟩) 1 1) 1 (gpC [⟨p.f, p.t, p.n, p.g + 1⟩]) rfl (.inr ⟨_, _, rfl, rfl, (fun j u hu => gp_new wb ⟨p.f, p.t, p.n, p.g + 1⟩ j u hu)⟩) (gp_one _) (by unfold maxLen; omega) (by omega) (by have := B1.out.size; simp <;> omega) ?_); intro B7 d7 w7 hown7 hg7 hsn7; have HB7 := Lib.hid ((B1.out.alloc B1.out.size _).grown hg7 (by have := B1.out.size; simp <;> omega) (own_lt HL1.out)); have HL7 : Hid (w7.ownsRow W.heap.size 56 4 (.slice B7 (m + 1) d7) (m + 1) (gpC (agedL (l.take (i + 1))))) := (by rw [HST.out, gpC, rowC_append]; exact hown7); clear hown7 hg7 hsn7))
        go_roundg (gk - 1)
        case measure => omega
        case rel => exact ⟨i + 1, B7, m + 1, d7, by omega, by omega, by go_num, rfl, by omega, by rw [HST.out, List.length_append, HM.out]; rfl, HL7, HB7⟩
      · have dy : decide ((p.g : Int) + 1 < 40) = false := decide_eq_false (by omega)
        rw [if_neg hy] at hst
        have HST := Lib.hid hst
        have B1 : Hid (Below W.heap.size W (wr.alloc (.cells #[.int .u64 (p.f : Nat), .int .u64 (p.t : Nat), .int .i64 p.n, .int .i64 ((p.g : Int) + 1)] 56))) := HB.out.alloc HB.out.size _
        have HL1 : Hid ((wr.alloc (.cells #[.int .u64 (p.f : Nat), .int .u64 (p.t : Nat), .int .i64 p.n, .int .i64 ((p.g : Int) + 1)] 56)).ownsRow W.heap.size 56 4 (.slice B m d) m (gpC (agedL (l.take i)))) := HL.out.alloc _
        clear hst
        go_upto_region 5 with (with_reducible (show wpList _ _ _ (⟨some 20, Op.load _ _, _, _, _, _⟩ :: _) _ _); go_must (refine wpList_load_mid rfl 56 (.tmp 19) rfl q (i * 4) rfl [.int .u64 (p.f : Nat), .int .u64 (p.t : Nat), .int .i64 p.n, .int .i64 (p.g : Nat)] _ HRA.out Try.underlying56 rfl (hsz p) ?_))
        go_wp2_with fail
        go_roundg (gk - 1)
        case measure => omega
        case rel => exact ⟨i + 1, B, m, d, by omega, by omega, by go_num, rfl, by omega, by rw [HST.out]; exact HM.out, by rw [HST.out]; exact HL1, B1⟩
    · obtain rfl : n = i := by omega
      have hta : l.take n = l := List.take_of_length_le (by rw [HN.out]; exact Nat.le_refl _)
      have HL8 := HL
      have HM8 := HM
      rw [hta] at HL8 HM8
      have ff := f3.out wr HB.out
      go_wp2_with fail
      go_end0
      have ho := HL8.out
      have hm8 := HM8.out
      obtain ⟨k1, k2, k3⟩ := HR.out.set (l' := agedL l) (V' := .slice B m d) HB.out (by rw [hm8]; exact ho)
      exact ⟨_, rfl, k1, k2, k3⟩
end Go.Proofs.Ytompbhkmaalioaa
