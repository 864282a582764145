/-
  A packet's bytes, cut anywhere, or longer, are none: the walk.
-/
import Derived.Test.YtbnmddopgbhapaaLetPackGet
namespace Go.Proofs.Ytbnmddopgbhapaa
open Go.RowKit

theorem putP_size {q : PV} {b : ByteArray} (h : putP q = some b) : b.size ≤ 435464 ∧ 8 ≤ b.size := by
  obtain ⟨hd, t, hi, h8, rfl⟩ := putP_parts h
  have := inP_le q
  rw [hi] at this
  have h3 : t.size ≤ 435456 := this
  rw [size_append]
  omega
theorem getP_cut {q : PV} {b : ByteArray} {K : Nat} (hF : q.Fine) (h : putP q = some b) (hK : K < b.size) : getP (b.extract 0 K) = none :=
  getP_short (c := b.extract K b.size) hF.ltF.afB hF.ltF.auB (by rw [← cut_parts]; exact h) (by rw [extract_size b K (by omega)]; omega)
set_option maxRecDepth 20000 in
set_option maxHeartbeats 8000000 in
theorem packetCuts_any (q : PV) (S1 S2 : Value) (k : Int) (W : World) (hF : q.Fine) (h1 : SlAt W S1 q.lt.ti) (h2 : SlAt W S2 q.lt.li) (_hk0 : -9223372036854775808 ≤ k) (_hk1 : k ≤ 9223372036854775807) :
    Calls Try.prog 9 #[.agg (q.cells S1 S2), .int .i64 k] W fun e w' => e = .returned (.bool true) ∧ Below W.heap.size W w' := by
  have hszZ : (Try.prog.info? 34).map (·.size) = some PZ.size := by kernel_rfl
  have honeZ : PZ.all (·.oneCell') = true := by first | decide | simp [PZ, Value.oneCell']
  have bw : Below W.heap.size W (W.alloc (.cells (q.cells S1 S2) 34)) := (Below.refl W.heap.size W).alloc (Nat.le_refl _) _
  have BW := Lib.hid bw
  have HB0 : Hid (Below (W.alloc (.cells (q.cells S1 S2) 34)).heap.size (W.alloc (.cells (q.cells S1 S2) 34)) (W.alloc (.cells (q.cells S1 S2) 34))) := Below.refl _ _
  have up : ∀ w, Below (W.alloc (.cells (q.cells S1 S2) 34)).heap.size (W.alloc (.cells (q.cells S1 S2) 34)) w → Below W.heap.size W w := fun w hb => bw.trans (hb.mono (by simp))
  have hszp : (Try.prog.info? 34).map (·.size) = some (q.cells S1 S2).size := by kernel_rfl
  have hszl : (Try.prog.info? 32).map (·.size) = some (q.lt.cellsL S1 S2).length := by kernel_rfl
  have HR : Hid (∀ w, Below (W.alloc (.cells (q.cells S1 S2) 34)).heap.size (W.alloc (.cells (q.cells S1 S2) 34)) w → w.heap[W.heap.size]? = some (.cells (q.cells S1 S2) 34) ∧ w.rangeAt W.heap.size 4 (q.lt.cellsL S1 S2) ∧ w.cell? ⟨W.heap.size, 2, none⟩ = some (.int .i64 q.sq)) := fun w hb => by
    have e := (hb.block _ (by simp)).trans (heap_alloc_new W (.cells (q.cells S1 S2) 34))
    exact ⟨e, inner_range e, cell_at e rfl⟩
  have CA : Hid (∀ w, Below (W.alloc (.cells (q.cells S1 S2) 34)).heap.size (W.alloc (.cells (q.cells S1 S2) 34)) w → Calls Try.prog 11 #[] w fun e w' => e = .returned (.bool true) ∧ Below w.heap.size w w') := fun w _ => alive_any w
  have cl : ∀ w, Below (W.alloc (.cells (q.cells S1 S2) 34)).heap.size (W.alloc (.cells (q.cells S1 S2) 34)) w → Calls Try.prog 10 #[.agg (q.lt.cells S1 S2)] w fun e w' => e = .returned (.bool (lightB q.lt)) ∧ Below w.heap.size w w' := fun w hb => light_any q.lt S1 S2 w hF.ltF (h1.below (up w hb)) (h2.below (up w hb))
  have pp : ∀ w, Below (W.alloc (.cells (q.cells S1 S2) 34)).heap.size (W.alloc (.cells (q.cells S1 S2) 34)) w → Calls Try.prog 12 #[.agg (q.cells S1 S2)] w (PutPPost w q) := fun w hb => pput_any q S1 S2 w hF (h1.below (up w hb)) (h2.below (up w hb))
  unfold PutPPost at pp
  generalize lightB q.lt = q1 at *
  have CL := Lib.hid cl
  clear cl h1 h2 up bw
  cases q1 with
  | false =>
    clear pp hF
    go_enter Try.func9, Try.ntmps9
    go_wp2_with (first
      | (refine wpList_load_row rfl 34 (.tmp 2) rfl W.heap.size rfl 34 (q.cells S1 S2) (0, 0) _ (HR.out _ (by first | exact HB6.out | exact HB5.out | exact HB4.out | exact HB3.out | exact HB2.out | exact HB1.out | exact HB0.out)).1 Try.underlying34 rfl hszp ?_)
      | (refine wpList_load_mid rfl 32 (.tmp 11) rfl W.heap.size 4 rfl (q.lt.cellsL S1 S2) _ (HR.out _ (by first | exact HB6.out | exact HB5.out | exact HB4.out | exact HB3.out | exact HB2.out | exact HB1.out | exact HB0.out)).2.1 Try.underlying32 rfl hszl ?_)
      | (go_at_call 10; ((with_reducible refine (CL.out _ HB0.out).mono ?_); rintro e w1 ⟨rfl, hb⟩; have HB1 : Hid (Below (W.alloc (.cells (q.cells S1 S2) 34)).heap.size (W.alloc (.cells (q.cells S1 S2) 34)) w1) := acc HB0.out hb; clear hb))
      | (go_at_call 11; ((with_reducible refine (CA.out _ HB1.out).mono ?_); rintro e w2 ⟨rfl, hb⟩; have HB2 : Hid (Below (W.alloc (.cells (q.cells S1 S2) 34)).heap.size (W.alloc (.cells (q.cells S1 S2) 34)) w2) := acc HB1.out hb; clear hb)))
    go_ret
    exact ⟨rfl, BW.out.trans (HB2.out.mono (by simp))⟩
  | true =>
    cases hp : putP q with
    | none =>
      rw [hp] at pp
      have PQ : Hid (∀ w, Below (W.alloc (.cells (q.cells S1 S2) 34)).heap.size (W.alloc (.cells (q.cells S1 S2) 34)) w → Calls Try.prog 12 #[.agg (q.cells S1 S2)] w fun e w' => e = .returned (.tuple #[.string ⟨#[]⟩, .bool false]) ∧ Below w.heap.size w w') := pp
      clear pp hF hp
      go_enter Try.func9, Try.ntmps9
      go_wp2_with (first
        | (refine wpList_load_row rfl 34 (.tmp 2) rfl W.heap.size rfl 34 (q.cells S1 S2) (0, 0) _ (HR.out _ (by first | exact HB6.out | exact HB5.out | exact HB4.out | exact HB3.out | exact HB2.out | exact HB1.out | exact HB0.out)).1 Try.underlying34 rfl hszp ?_)
        | (refine wpList_load_mid rfl 32 (.tmp 11) rfl W.heap.size 4 rfl (q.lt.cellsL S1 S2) _ (HR.out _ (by first | exact HB6.out | exact HB5.out | exact HB4.out | exact HB3.out | exact HB2.out | exact HB1.out | exact HB0.out)).2.1 Try.underlying32 rfl hszl ?_)
        | (go_at_call 10; ((with_reducible refine (CL.out _ HB0.out).mono ?_); rintro e w1 ⟨rfl, hb⟩; have HB1 : Hid (Below (W.alloc (.cells (q.cells S1 S2) 34)).heap.size (W.alloc (.cells (q.cells S1 S2) 34)) w1) := acc HB0.out hb; clear hb))
        | (go_at_call 11; ((with_reducible refine (CA.out _ HB1.out).mono ?_); rintro e w2 ⟨rfl, hb⟩; have HB2 : Hid (Below (W.alloc (.cells (q.cells S1 S2) 34)).heap.size (W.alloc (.cells (q.cells S1 S2) 34)) w2) := acc HB1.out hb; clear hb))
        | (go_at_call 12; ((with_reducible refine (PQ.out _ HB2.out).mono ?_); rintro e w3 ⟨rfl, hb⟩; have HB3 : Hid (Below (W.alloc (.cells (q.cells S1 S2) 34)).heap.size (W.alloc (.cells (q.cells S1 S2) 34)) w3) := acc HB2.out hb; clear hb)))
      go_ret
      exact ⟨rfl, BW.out.trans (HB3.out.mono (by simp))⟩
    | some b =>
      rw [hp] at pp
      have PQ : Hid (∀ w, Below (W.alloc (.cells (q.cells S1 S2) 34)).heap.size (W.alloc (.cells (q.cells S1 S2) 34)) w → Calls Try.prog 12 #[.agg (q.cells S1 S2)] w fun e w' => e = .returned (.tuple #[.string b, .bool true]) ∧ Below w.heap.size w w') := pp
      obtain ⟨hbs, hb0⟩ := putP_size hp
      obtain ⟨K, hKB, hK⟩ := cut_spot k b.size (by omega) (by omega)
      have hz0 : ((b.size : Int) == 0) = false := by rw [beq_eq_false_iff_ne]; omega
      have n1 := getP_cut hF hp hKB
      have n2 : getP (b ++ ⟨#[120]⟩) = none := getP_not hF.ltF.afB hF.ltF.auB hp (by decide)
      have CG : Hid (∀ w, Calls Try.prog 14 #[.string (b.extract 0 K)] w fun e w' => e = .returned (.tuple #[.agg PZ, .bool false]) ∧ Below w.heap.size w w') := fun w => (pget_any _ w (extract_le b K (by omega))).mono fun e w' h => by
        obtain ⟨hb, ⟨_, e1⟩ | ⟨l, S1, S2, h1, _⟩⟩ := h
        · exact ⟨e1, hb⟩
        · rw [n1] at h1; cases h1
      have CH : Hid (∀ w, Calls Try.prog 14 #[.string (b ++ ⟨#[120]⟩)] w fun e w' => e = .returned (.tuple #[.agg PZ, .bool false]) ∧ Below w.heap.size w w') := fun w => (pget_any _ w (by rw [ByteArray.size_append]; show b.size + 1 ≤ _; omega)).mono fun e w' h => by
        obtain ⟨hb, ⟨_, e1⟩ | ⟨l, S1, S2, h1, _⟩⟩ := h
        · exact ⟨e1, hb⟩
        · rw [n2] at h1; cases h1
      clear pp hF hp n1 n2
      go_enter Try.func9, Try.ntmps9
      go_wp2_with (first
        | (refine wpList_load_row rfl 34 (.tmp 2) rfl W.heap.size rfl 34 (q.cells S1 S2) (0, 0) _ (HR.out _ (by first | exact HB6.out | exact HB5.out | exact HB4.out | exact HB3.out | exact HB2.out | exact HB1.out | exact HB0.out)).1 Try.underlying34 rfl hszp ?_)
        | (refine wpList_load_mid rfl 32 (.tmp 11) rfl W.heap.size 4 rfl (q.lt.cellsL S1 S2) _ (HR.out _ (by first | exact HB6.out | exact HB5.out | exact HB4.out | exact HB3.out | exact HB2.out | exact HB1.out | exact HB0.out)).2.1 Try.underlying32 rfl hszl ?_)
        | (go_at_call 10; ((with_reducible refine (CL.out _ HB0.out).mono ?_); rintro e w1 ⟨rfl, hb⟩; have HB1 : Hid (Below (W.alloc (.cells (q.cells S1 S2) 34)).heap.size (W.alloc (.cells (q.cells S1 S2) 34)) w1) := acc HB0.out hb; clear hb))
        | (go_at_call 11; ((with_reducible refine (CA.out _ HB1.out).mono ?_); rintro e w2 ⟨rfl, hb⟩; have HB2 : Hid (Below (W.alloc (.cells (q.cells S1 S2) 34)).heap.size (W.alloc (.cells (q.cells S1 S2) 34)) w2) := acc HB1.out hb; clear hb))
        | (go_at_call 12; ((with_reducible refine (PQ.out _ HB2.out).mono ?_); rintro e w3 ⟨rfl, hb⟩; have HB3 : Hid (Below (W.alloc (.cells (q.cells S1 S2) 34)).heap.size (W.alloc (.cells (q.cells S1 S2) 34)) w3) := acc HB2.out hb; clear hb))
        | (go_at_call 14; ((with_reducible refine (CG.out _).mono ?_); rintro e w4 ⟨rfl, hb⟩; have HB4 : Hid (Below (W.alloc (.cells (q.cells S1 S2) 34)).heap.size (W.alloc (.cells (q.cells S1 S2) 34)) w4) := acc HB3.out hb; clear hb; have B45 : Hid (Below (W.alloc (.cells (q.cells S1 S2) 34)).heap.size (W.alloc (.cells (q.cells S1 S2) 34)) ((w4.alloc (.cells PZ 34)).setRow w4.heap.size PZ)) := acc HB4.out (((Below.refl _ _).alloc (Nat.le_refl _) _).trans (below_setRow _ (Nat.le_refl _)))))
        | (with_reducible (show wpList _ _ _ (⟨none, Op.store _ (Operand.tmp 7) _, _, _, _, _⟩ :: _) _ _); go_must (refine wpList_store_row rfl 34 (.tmp 7) (.tmp 52) rfl w4.heap.size PZ rfl rfl 34 PZ (heap_alloc_new w4 _) hszZ rfl honeZ ?_))
        | (go_at_call 14; ((with_reducible refine (CH.out _).mono ?_); rintro e w5 ⟨rfl, hb⟩; have HB5 : Hid (Below (W.alloc (.cells (q.cells S1 S2) 34)).heap.size (W.alloc (.cells (q.cells S1 S2) 34)) w5) := acc B45.out hb; clear hb; have HB6 : Hid (Below (W.alloc (.cells (q.cells S1 S2) 34)).heap.size (W.alloc (.cells (q.cells S1 S2) 34)) ((w5.alloc (.cells PZ 34)).setRow w5.heap.size PZ)) := acc HB5.out (((Below.refl _ _).alloc (Nat.le_refl _) _).trans (below_setRow _ (Nat.le_refl _)))))
        | (with_reducible (show wpList _ _ _ (⟨none, Op.store _ (Operand.tmp 9) _, _, _, _, _⟩ :: _) _ _); go_must (refine wpList_store_row rfl 34 (.tmp 9) (.tmp 58) rfl w5.heap.size PZ rfl rfl 34 PZ (heap_alloc_new w5 _) hszZ rfl honeZ ?_)))
      go_ret
      exact ⟨rfl, BW.out.trans (HB6.out.mono (by simp))⟩
end Go.Proofs.Ytbnmddopgbhapaa
