/-
  A letter's bytes, cut anywhere, or longer, are none: the walk.
-/
import Derived.Test.YtbnmddopgbhapaaLetLawB
namespace Go.Proofs.Ytbnmddopgbhapaa
open Go.RowKit

theorem putL_size {l : LV} {b : ByteArray} (h : putL l = some b) : b.size ≤ 21000000 := by
  have := catO_le 1000000 (letterOs l) (letterOs_le l)
  have e1 : catO (letterOs l) = some b := h
  have e2 : (letterOs l).length = 21 := rfl
  rw [e1, e2] at this
  have h3 : b.size ≤ 21 * 1000000 := this
  omega
theorem getL_nothing : getL ByteArray.empty = none := by kernel_rfl
theorem size_zero {b : ByteArray} (h : b.size = 0) : b = ByteArray.empty := ba_ext (by rw [empty_data]; exact List.eq_nil_of_length_eq_zero h)
theorem putL_pos {l : LV} {b : ByteArray} (hF : l.Fine) (h : putL l = some b) : 0 < b.size := by
  rcases Nat.eq_zero_or_pos b.size with h0 | h0
  · obtain rfl := size_zero h0
    have e := getL_of hF.afB hF.auB h
    rw [getL_nothing] at e
    cases e
  · exact h0
theorem cut_spot (k : Int) (n : Nat) (h : 0 < n) (hn : n ≤ 100000000) : ∃ K : Nat, K < n ∧ (wrap64 (k.tmod (n : Int) + (n : Int))).tmod (n : Int) = (K : Int) := by
  have h1 := Int.tmod_lt_of_pos k (show (0 : Int) < n by omega)
  have h2 := Int.lt_tmod_of_pos k (show (0 : Int) < n by omega)
  have h3 : 0 ≤ k.tmod (n : Int) + (n : Int) := by omega
  have hw : wrap64 (k.tmod (n : Int) + (n : Int)) = k.tmod (n : Int) + (n : Int) := by
    unfold wrap64; omega
  rw [hw]
  obtain ⟨m, hm⟩ := Int.eq_ofNat_of_zero_le h3
  rw [hm]
  refine ⟨m % n, Nat.mod_lt _ h, ?_⟩
  rw [Int.tmod_eq_emod_of_nonneg (by omega)]
  simp
theorem cut_parts (b : ByteArray) (K : Nat) : b = b.extract 0 K ++ b.extract K b.size := by
  apply ba_ext
  rw [data_append, extract_first, extract_rest, List.take_append_drop]
theorem getL_cut {l : LV} {b : ByteArray} {K : Nat} (hF : l.Fine) (h : putL l = some b) (hK : K < b.size) : getL (b.extract 0 K) = none :=
  getL_short (c := b.extract K b.size) hF.afB hF.auB (by rw [← cut_parts]; exact h) (by rw [extract_size b K (by omega)]; omega)
theorem extract_le (b : ByteArray) (K : Nat) (h : b.size ≤ 9223372036854775807) : (b.extract 0 K).size ≤ 9223372036854775807 := by
  rw [← data_length, extract_first, List.length_take, data_length]; omega
set_option maxRecDepth 20000 in
set_option maxHeartbeats 8000000 in
theorem letterCuts_any (l : LV) (S1 S2 : Value) (k : Int) (W : World) (hF : l.Fine) (h1 : SlAt W S1 l.ti) (h2 : SlAt W S2 l.li) (_hk0 : -9223372036854775808 ≤ k) (_hk1 : k ≤ 9223372036854775807) :
    Calls Try.prog 4 #[.agg (l.cells S1 S2), .int .i64 k] W fun e w' => e = .returned (.bool true) ∧ Below W.heap.size W w' := by
  have bw : Below W.heap.size W (W.alloc (.cells (l.cells S1 S2) 32)) := (Below.refl W.heap.size W).alloc (Nat.le_refl _) _
  have BW := Lib.hid bw
  have HB0 : Hid (Below (W.alloc (.cells (l.cells S1 S2) 32)).heap.size (W.alloc (.cells (l.cells S1 S2) 32)) (W.alloc (.cells (l.cells S1 S2) 32))) := Below.refl _ _
  have up : ∀ w, Below (W.alloc (.cells (l.cells S1 S2) 32)).heap.size (W.alloc (.cells (l.cells S1 S2) 32)) w → Below W.heap.size W w := fun w hb => bw.trans (hb.mono (by simp))
  have hszl : (Try.prog.info? 32).map (·.size) = some (l.cells S1 S2).size := by kernel_rfl
  have hszZ : (Try.prog.info? 32).map (·.size) = some ZC.size := by kernel_rfl
  have honeZ : ZC.all (·.oneCell') = true := by first | decide | simp [ZC, Value.oneCell']
  have HR : Hid (∀ w, Below (W.alloc (.cells (l.cells S1 S2) 32)).heap.size (W.alloc (.cells (l.cells S1 S2) 32)) w → w.heap[W.heap.size]? = some (.cells (l.cells S1 S2) 32)) := fun w hb => (hb.block _ (by simp)).trans (heap_alloc_new W _)
  have CA : Hid (∀ w, Below (W.alloc (.cells (l.cells S1 S2) 32)).heap.size (W.alloc (.cells (l.cells S1 S2) 32)) w → Calls Try.prog 11 #[] w fun e w' => e = .returned (.bool true) ∧ Below w.heap.size w w') := fun w _ => alive_any w
  have cl : ∀ w, Below (W.alloc (.cells (l.cells S1 S2) 32)).heap.size (W.alloc (.cells (l.cells S1 S2) 32)) w → Calls Try.prog 10 #[.agg (l.cells S1 S2)] w fun e w' => e = .returned (.bool (lightB l)) ∧ Below w.heap.size w w' := fun w hb => light_any l S1 S2 w hF (h1.below (up w hb)) (h2.below (up w hb))
  have pl : ∀ w, Below (W.alloc (.cells (l.cells S1 S2) 32)).heap.size (W.alloc (.cells (l.cells S1 S2) 32)) w → Calls Try.prog 17 #[.agg (l.cells S1 S2)] w (PutPost w l) := fun w hb => lput_any l S1 S2 w hF (h1.below (up w hb)) (h2.below (up w hb))
  unfold PutPost at pl
  generalize lightB l = q1 at *
  have CL := Lib.hid cl
  clear cl h1 h2 up bw
  cases q1 with
  | false =>
    clear pl hF
    go_enter Try.func4, Try.ntmps4
    go_wp2_with (first
      | (refine wpList_load_row rfl 32 (.tmp 2) rfl W.heap.size rfl 32 (l.cells S1 S2) (0, 0) _ (HR.out _ (by first | exact HB6.out | exact HB5.out | exact HB4.out | exact HB3.out | exact HB2.out | exact HB1.out | exact HB0.out)) Try.underlying32 rfl hszl ?_)
      | (refine wpList_load_rowG (by rfl) 32 (.tmp 2) rfl W.heap.size rfl 32 (l.cells S1 S2) (0, 0) _ (HR.out _ (by first | exact HB6.out | exact HB5.out | exact HB4.out | exact HB3.out | exact HB2.out | exact HB1.out | exact HB0.out)) Try.underlying32 rfl hszl ?_)
      | (go_at_call 10; ((with_reducible refine (CL.out _ HB0.out).mono ?_); rintro e w1 ⟨rfl, hb⟩; have HB1 : Hid (Below (W.alloc (.cells (l.cells S1 S2) 32)).heap.size (W.alloc (.cells (l.cells S1 S2) 32)) w1) := acc HB0.out hb; clear hb))
      | (go_at_call 11; ((with_reducible refine (CA.out _ HB1.out).mono ?_); rintro e w2 ⟨rfl, hb⟩; have HB2 : Hid (Below (W.alloc (.cells (l.cells S1 S2) 32)).heap.size (W.alloc (.cells (l.cells S1 S2) 32)) w2) := acc HB1.out hb; clear hb)))
    go_ret
    exact ⟨rfl, BW.out.trans (HB2.out.mono (by simp))⟩
  | true =>
    cases hp : putL l with
    | none =>
      rw [hp] at pl
      have PL : Hid (∀ w, Below (W.alloc (.cells (l.cells S1 S2) 32)).heap.size (W.alloc (.cells (l.cells S1 S2) 32)) w → Calls Try.prog 17 #[.agg (l.cells S1 S2)] w fun e w' => e = .returned (.tuple #[.string ⟨#[]⟩, .bool false]) ∧ Below w.heap.size w w') := pl
      clear pl hF hp
      go_enter Try.func4, Try.ntmps4
      go_wp2_with (first
        | (refine wpList_load_row rfl 32 (.tmp 2) rfl W.heap.size rfl 32 (l.cells S1 S2) (0, 0) _ (HR.out _ (by first | exact HB6.out | exact HB5.out | exact HB4.out | exact HB3.out | exact HB2.out | exact HB1.out | exact HB0.out)) Try.underlying32 rfl hszl ?_)
        | (refine wpList_load_rowG (by rfl) 32 (.tmp 2) rfl W.heap.size rfl 32 (l.cells S1 S2) (0, 0) _ (HR.out _ (by first | exact HB6.out | exact HB5.out | exact HB4.out | exact HB3.out | exact HB2.out | exact HB1.out | exact HB0.out)) Try.underlying32 rfl hszl ?_)
        | (go_at_call 10; ((with_reducible refine (CL.out _ HB0.out).mono ?_); rintro e w1 ⟨rfl, hb⟩; have HB1 : Hid (Below (W.alloc (.cells (l.cells S1 S2) 32)).heap.size (W.alloc (.cells (l.cells S1 S2) 32)) w1) := acc HB0.out hb; clear hb))
        | (go_at_call 11; ((with_reducible refine (CA.out _ HB1.out).mono ?_); rintro e w2 ⟨rfl, hb⟩; have HB2 : Hid (Below (W.alloc (.cells (l.cells S1 S2) 32)).heap.size (W.alloc (.cells (l.cells S1 S2) 32)) w2) := acc HB1.out hb; clear hb))
        | (go_at_call 17; ((with_reducible refine (PL.out _ HB2.out).mono ?_); rintro e w3 ⟨rfl, hb⟩; have HB3 : Hid (Below (W.alloc (.cells (l.cells S1 S2) 32)).heap.size (W.alloc (.cells (l.cells S1 S2) 32)) w3) := acc HB2.out hb; clear hb)))
      go_ret
      exact ⟨rfl, BW.out.trans (HB3.out.mono (by simp))⟩
    | some b =>
      rw [hp] at pl
      have PL : Hid (∀ w, Below (W.alloc (.cells (l.cells S1 S2) 32)).heap.size (W.alloc (.cells (l.cells S1 S2) 32)) w → Calls Try.prog 17 #[.agg (l.cells S1 S2)] w fun e w' => e = .returned (.tuple #[.string b, .bool true]) ∧ Below w.heap.size w w') := pl
      have hbs := putL_size hp
      have hb0 := putL_pos hF hp
      obtain ⟨K, hKB, hK⟩ := cut_spot k b.size hb0 (by omega)
      have hz0 : ((b.size : Int) == 0) = false := by rw [beq_eq_false_iff_ne]; omega
      have n1 := getL_cut hF hp hKB
      have n2 : getL (b ++ ⟨#[120]⟩) = none := getL_not hF.afB hF.auB hp (by decide)
      have CG : Hid (∀ w, Calls Try.prog 18 #[.string (b.extract 0 K)] w fun e w' => e = .returned (.tuple #[.agg ZC, .bool false]) ∧ Below w.heap.size w w') := fun w => (lget_any _ w (extract_le b K (by omega))).mono fun e w' h => by
        obtain ⟨hb, ⟨_, e1⟩ | ⟨l, S1, S2, h1, _⟩⟩ := h
        · exact ⟨e1, hb⟩
        · rw [n1] at h1; cases h1
      have CH : Hid (∀ w, Calls Try.prog 18 #[.string (b ++ ⟨#[120]⟩)] w fun e w' => e = .returned (.tuple #[.agg ZC, .bool false]) ∧ Below w.heap.size w w') := fun w => (lget_any _ w (by rw [ByteArray.size_append]; show b.size + 1 ≤ _; omega)).mono fun e w' h => by
        obtain ⟨hb, ⟨_, e1⟩ | ⟨l, S1, S2, h1, _⟩⟩ := h
        · exact ⟨e1, hb⟩
        · rw [n2] at h1; cases h1
      clear pl hF hp n1 n2
      go_enter Try.func4, Try.ntmps4
      go_wp2_with (first
        | (refine wpList_load_row rfl 32 (.tmp 2) rfl W.heap.size rfl 32 (l.cells S1 S2) (0, 0) _ (HR.out _ (by first | exact HB6.out | exact HB5.out | exact HB4.out | exact HB3.out | exact HB2.out | exact HB1.out | exact HB0.out)) Try.underlying32 rfl hszl ?_)
        | (refine wpList_load_rowG (by rfl) 32 (.tmp 2) rfl W.heap.size rfl 32 (l.cells S1 S2) (0, 0) _ (HR.out _ (by first | exact HB6.out | exact HB5.out | exact HB4.out | exact HB3.out | exact HB2.out | exact HB1.out | exact HB0.out)) Try.underlying32 rfl hszl ?_)
        | (go_at_call 10; ((with_reducible refine (CL.out _ HB0.out).mono ?_); rintro e w1 ⟨rfl, hb⟩; have HB1 : Hid (Below (W.alloc (.cells (l.cells S1 S2) 32)).heap.size (W.alloc (.cells (l.cells S1 S2) 32)) w1) := acc HB0.out hb; clear hb))
        | (go_at_call 11; ((with_reducible refine (CA.out _ HB1.out).mono ?_); rintro e w2 ⟨rfl, hb⟩; have HB2 : Hid (Below (W.alloc (.cells (l.cells S1 S2) 32)).heap.size (W.alloc (.cells (l.cells S1 S2) 32)) w2) := acc HB1.out hb; clear hb))
        | (go_at_call 17; ((with_reducible refine (PL.out _ HB2.out).mono ?_); rintro e w3 ⟨rfl, hb⟩; have HB3 : Hid (Below (W.alloc (.cells (l.cells S1 S2) 32)).heap.size (W.alloc (.cells (l.cells S1 S2) 32)) w3) := acc HB2.out hb; clear hb))
        | (go_at_call 18; ((with_reducible refine (CG.out _).mono ?_); rintro e w4 ⟨rfl, hb⟩; have HB4 : Hid (Below (W.alloc (.cells (l.cells S1 S2) 32)).heap.size (W.alloc (.cells (l.cells S1 S2) 32)) w4) := acc HB3.out hb; clear hb; have B45 : Hid (Below (W.alloc (.cells (l.cells S1 S2) 32)).heap.size (W.alloc (.cells (l.cells S1 S2) 32)) ((w4.alloc (.cells ZC 32)).setRow w4.heap.size ZC)) := acc HB4.out (((Below.refl _ _).alloc (Nat.le_refl _) _).trans (below_setRow _ (Nat.le_refl _)))))
        | (with_reducible (show wpList _ _ _ (⟨none, Op.store _ (Operand.tmp 7) _, _, _, _, _⟩ :: _) _ _); go_must (refine wpList_store_row rfl 32 (.tmp 7) (.tmp 51) rfl w4.heap.size ZC rfl rfl 32 ZC (heap_alloc_new w4 _) hszZ rfl honeZ ?_))
        | (go_at_call 18; ((with_reducible refine (CH.out _).mono ?_); rintro e w5 ⟨rfl, hb⟩; have HB5 : Hid (Below (W.alloc (.cells (l.cells S1 S2) 32)).heap.size (W.alloc (.cells (l.cells S1 S2) 32)) w5) := acc B45.out hb; clear hb; have HB6 : Hid (Below (W.alloc (.cells (l.cells S1 S2) 32)).heap.size (W.alloc (.cells (l.cells S1 S2) 32)) ((w5.alloc (.cells ZC 32)).setRow w5.heap.size ZC)) := acc HB5.out (((Below.refl _ _).alloc (Nat.le_refl _) _).trans (below_setRow _ (Nat.le_refl _)))))
        | (with_reducible (show wpList _ _ _ (⟨none, Op.store _ (Operand.tmp 9) _, _, _, _, _⟩ :: _) _ _); go_must (refine wpList_store_row rfl 32 (.tmp 9) (.tmp 57) rfl w5.heap.size ZC rfl rfl 32 ZC (heap_alloc_new w5 _) hszZ rfl honeZ ?_)))
      go_ret
      exact ⟨rfl, BW.out.trans (HB6.out.mono (by simp))⟩
end Go.Proofs.Ytbnmddopgbhapaa
