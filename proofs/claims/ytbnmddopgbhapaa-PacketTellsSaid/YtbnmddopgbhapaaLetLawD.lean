/-
  A packet without a letter has eight bytes; one with one has its bytes behind: the walk.
-/
import Derived.Test.YtbnmddopgbhapaaLetPackPut
namespace Go.Proofs.Ytbnmddopgbhapaa
open Go.RowKit

theorem numP_two {lo hi v : Int} {s : ByteArray} (h0 : 0 ≤ lo) (h1 : hi ≤ 65535) (h : numP lo hi v = some s) : s.size = 2 := by
  unfold numP at h
  by_cases g : lo ≤ v ∧ v ≤ hi
  · rw [if_pos g] at h
    obtain rfl := Option.some.inj h
    unfold numT
    rw [if_pos (show okNum v = true by simp [okNum]; omega), txt_size, wideN_length]
  · rw [if_neg g] at h; cases h
theorem putP_parts {q : PV} {b : ByteArray} (h : putP q = some b) : ∃ hd t, inP q = some t ∧ hd.size = 8 ∧ b = hd ++ t := by
  unfold putP packetOs at h
  cases h1 : numP 0 255 q.pf with
  | none => rw [h1] at h; cases h
  | some a1 =>
    cases h2 : numP 0 255 q.pt with
    | none => rw [h1, h2] at h; cases h
    | some a2 =>
      cases h3 : numP 0 65535 q.sq with
      | none => rw [h1, h2, h3] at h; cases h
      | some a3 =>
        cases h4 : numP 0 65535 q.ak with
        | none => rw [h1, h2, h3, h4] at h; cases h
        | some a4 =>
          cases h5 : inP q with
          | none => rw [h1, h2, h3, h4, h5] at h; cases h
          | some t =>
            rw [h1, h2, h3, h4, h5] at h
            have s1 := numP_two (by decide) (by decide) h1
            have s2 := numP_two (by decide) (by decide) h2
            have s3 := numP_two (by decide) (by decide) h3
            have s4 := numP_two (by decide) (by decide) h4
            refine ⟨a1 ++ (a2 ++ (a3 ++ a4)), t, rfl, by simp only [size_append]; omega, ?_⟩
            have e : a1 ++ (a2 ++ (a3 ++ (a4 ++ (t ++ ByteArray.empty)))) = b := Option.some.inj h
            rw [append_empty] at e
            rw [← e]
            simp only [append_assoc]
set_option maxRecDepth 20000 in
set_option maxHeartbeats 8000000 in
theorem packetAcks_any (q : PV) (S1 S2 : Value) (W : World) (hF : q.Fine) (h1 : SlAt W S1 q.lt.ti) (h2 : SlAt W S2 q.lt.li) :
    Calls Try.prog 7 #[.agg (q.cells S1 S2)] W fun e w' => e = .returned (.bool true) ∧ Below W.heap.size W w' := by
  have bw : Below W.heap.size W (W.alloc (.cells (q.cells S1 S2) 34)) := (Below.refl W.heap.size W).alloc (Nat.le_refl _) _
  have BW := Lib.hid bw
  have HB0 : Hid (Below (W.alloc (.cells (q.cells S1 S2) 34)).heap.size (W.alloc (.cells (q.cells S1 S2) 34)) (W.alloc (.cells (q.cells S1 S2) 34))) := Below.refl _ _
  have up : ∀ w, Below (W.alloc (.cells (q.cells S1 S2) 34)).heap.size (W.alloc (.cells (q.cells S1 S2) 34)) w → Below W.heap.size W w := fun w hb => bw.trans (hb.mono (by simp))
  have hszp : (Try.prog.info? 34).map (·.size) = some (q.cells S1 S2).size := by kernel_rfl
  have hszl : (Try.prog.info? 32).map (·.size) = some (q.lt.cellsL S1 S2).length := by kernel_rfl
  have HR : Hid (∀ w, Below (W.alloc (.cells (q.cells S1 S2) 34)).heap.size (W.alloc (.cells (q.cells S1 S2) 34)) w → w.heap[W.heap.size]? = some (.cells (q.cells S1 S2) 34) ∧ w.rangeAt W.heap.size 4 (q.lt.cellsL S1 S2) ∧ w.cell? ⟨W.heap.size, 2, none⟩ = some (.int .i64 q.sq)) := fun w hb => by
    have e := (hb.block _ (by simp)).trans (heap_alloc_new W (.cells (q.cells S1 S2) 34))
    exact ⟨e, inner_range e, cell_at e rfl⟩
  have CA : Hid (∀ w, Below (W.alloc (.cells (q.cells S1 S2) 34)).heap.size (W.alloc (.cells (q.cells S1 S2) 34)) w → Calls Try.prog 11 #[] w fun e w' => e = .returned (.bool true) ∧ Below w.heap.size w w') := fun w _ => alive_any w
  have cl : ∀ w, Below (W.alloc (.cells (q.cells S1 S2) 34)).heap.size (W.alloc (.cells (q.cells S1 S2) 34)) w → Calls Try.prog 10 #[.agg (q.lt.cells S1 S2)] w fun e w' => e = .returned (.bool (lightB q.lt)) ∧ Below w.heap.size w w' := fun w hb => light_any q.lt S1 S2 w hF.ltF (h1.below (up w hb)) (h2.below (up w hb))
  have pp : ∀ w, Below (W.alloc (.cells (q.cells S1 S2) 34)).heap.size (W.alloc (.cells (q.cells S1 S2) 34)) w → Calls Try.prog 12 #[.agg (q.cells S1 S2)] w (PutPPost w q) := fun w hb => pput_any q S1 S2 w hF (h1.below (up w hb)) (h2.below (up w hb))
  unfold PutPPost at pp
  generalize lightB q.lt = q1 at *
  have CL := Lib.hid cl
  have pl : ∀ w, Below (W.alloc (.cells (q.cells S1 S2) 34)).heap.size (W.alloc (.cells (q.cells S1 S2) 34)) w → Calls Try.prog 17 #[.agg (q.lt.cells S1 S2)] w (PutPost w q.lt) := fun w hb => lput_any q.lt S1 S2 w hF.ltF (h1.below (up w hb)) (h2.below (up w hb))
  unfold PutPost at pl
  clear cl hF h1 h2 up bw
  cases q1 with
  | false =>
    clear pp pl
    go_enter Try.func7, Try.ntmps7
    go_wp2_with (first
      | (refine wpList_load_row rfl 34 (.tmp 1) rfl W.heap.size rfl 34 (q.cells S1 S2) (0, 0) _ (HR.out _ (by first | exact HB6.out | exact HB5.out | exact HB4.out | exact HB3.out | exact HB2.out | exact HB1.out | exact HB0.out)).1 Try.underlying34 rfl hszp ?_)
      | (refine wpList_load_mid rfl 32 (.tmp 7) rfl W.heap.size 4 rfl (q.lt.cellsL S1 S2) _ (HR.out _ (by first | exact HB6.out | exact HB5.out | exact HB4.out | exact HB3.out | exact HB2.out | exact HB1.out | exact HB0.out)).2.1 Try.underlying32 rfl hszl ?_)
      | (refine wpList_load_mid rfl 32 (.tmp 26) rfl W.heap.size 4 rfl (q.lt.cellsL S1 S2) _ (HR.out _ (by first | exact HB6.out | exact HB5.out | exact HB4.out | exact HB3.out | exact HB2.out | exact HB1.out | exact HB0.out)).2.1 Try.underlying32 rfl hszl ?_)
      | (go_at_call 10; ((with_reducible refine (CL.out _ HB0.out).mono ?_); rintro e w1 ⟨rfl, hb⟩; have HB1 : Hid (Below (W.alloc (.cells (q.cells S1 S2) 34)).heap.size (W.alloc (.cells (q.cells S1 S2) 34)) w1) := acc HB0.out hb; clear hb))
      | (go_at_call 11; ((with_reducible refine (CA.out _ HB1.out).mono ?_); rintro e w2 ⟨rfl, hb⟩; have HB2 : Hid (Below (W.alloc (.cells (q.cells S1 S2) 34)).heap.size (W.alloc (.cells (q.cells S1 S2) 34)) w2) := acc HB1.out hb; clear hb)))
    go_ret
    exact ⟨rfl, BW.out.trans (HB2.out.mono (by simp))⟩
  | true =>
    cases hp : putP q with
    | none =>
      rw [hp] at pp
      have PQ : Hid (∀ w, Below (W.alloc (.cells (q.cells S1 S2) 34)).heap.size (W.alloc (.cells (q.cells S1 S2) 34)) w → Calls Try.prog 12 #[.agg (q.cells S1 S2)] w fun e w' => e = .returned (.tuple #[.string ⟨#[]⟩, .bool false]) ∧ Below w.heap.size w w') := pp
      clear pp pl hp
      go_enter Try.func7, Try.ntmps7
      go_wp2_with (first
        | (refine wpList_load_row rfl 34 (.tmp 1) rfl W.heap.size rfl 34 (q.cells S1 S2) (0, 0) _ (HR.out _ (by first | exact HB6.out | exact HB5.out | exact HB4.out | exact HB3.out | exact HB2.out | exact HB1.out | exact HB0.out)).1 Try.underlying34 rfl hszp ?_)
        | (refine wpList_load_mid rfl 32 (.tmp 7) rfl W.heap.size 4 rfl (q.lt.cellsL S1 S2) _ (HR.out _ (by first | exact HB6.out | exact HB5.out | exact HB4.out | exact HB3.out | exact HB2.out | exact HB1.out | exact HB0.out)).2.1 Try.underlying32 rfl hszl ?_)
        | (refine wpList_load_mid rfl 32 (.tmp 26) rfl W.heap.size 4 rfl (q.lt.cellsL S1 S2) _ (HR.out _ (by first | exact HB6.out | exact HB5.out | exact HB4.out | exact HB3.out | exact HB2.out | exact HB1.out | exact HB0.out)).2.1 Try.underlying32 rfl hszl ?_)
        | (go_at_call 10; ((with_reducible refine (CL.out _ HB0.out).mono ?_); rintro e w1 ⟨rfl, hb⟩; have HB1 : Hid (Below (W.alloc (.cells (q.cells S1 S2) 34)).heap.size (W.alloc (.cells (q.cells S1 S2) 34)) w1) := acc HB0.out hb; clear hb))
        | (go_at_call 11; ((with_reducible refine (CA.out _ HB1.out).mono ?_); rintro e w2 ⟨rfl, hb⟩; have HB2 : Hid (Below (W.alloc (.cells (q.cells S1 S2) 34)).heap.size (W.alloc (.cells (q.cells S1 S2) 34)) w2) := acc HB1.out hb; clear hb))
        | (go_at_call 12; ((with_reducible refine (PQ.out _ HB2.out).mono ?_); rintro e w3 ⟨rfl, hb⟩; have HB3 : Hid (Below (W.alloc (.cells (q.cells S1 S2) 34)).heap.size (W.alloc (.cells (q.cells S1 S2) 34)) w3) := acc HB2.out hb; clear hb)))
      go_ret
      exact ⟨rfl, BW.out.trans (HB3.out.mono (by simp))⟩
    | some b =>
      rw [hp] at pp
      have PQ : Hid (∀ w, Below (W.alloc (.cells (q.cells S1 S2) 34)).heap.size (W.alloc (.cells (q.cells S1 S2) 34)) w → Calls Try.prog 12 #[.agg (q.cells S1 S2)] w fun e w' => e = .returned (.tuple #[.string b, .bool true]) ∧ Below w.heap.size w w') := pp
      obtain ⟨hd, t, hi, h8, hbt⟩ := putP_parts hp
      have hbs : b.size = 8 + t.size := by rw [hbt, size_append, h8]
      have hbx : b.extract 8 b.size = t := by rw [hbt]; exact rest_append hd t 8 h8
      unfold inP at hi
      clear pp hp h8 hbt
      by_cases h0 : q.sq = 0
      · rw [if_pos h0] at hi
        have ht : t = ByteArray.empty := by
          cases hs : someB q.lt with
          | true => rw [hs] at hi; cases hi
          | false => rw [hs] at hi; exact (Option.some.inj hi).symm
        have e0 : (q.sq == 0) = true := by rw [beq_iff_eq]; exact h0
        have e1 : ((b.size : Int) == 8) = true := by rw [beq_iff_eq, hbs, ht]; rfl
        generalize (putL q.lt).getD ByteArray.empty = t1 at *
        generalize (putL q.lt).isSome = q2 at *
        have PL := Lib.hid pl
        clear pl hi ht hbx hbs h0
        go_enter Try.func7, Try.ntmps7
        go_wp2_with (first
          | (refine wpList_load_row rfl 34 (.tmp 1) rfl W.heap.size rfl 34 (q.cells S1 S2) (0, 0) _ (HR.out _ (by first | exact HB6.out | exact HB5.out | exact HB4.out | exact HB3.out | exact HB2.out | exact HB1.out | exact HB0.out)).1 Try.underlying34 rfl hszp ?_)
          | (refine wpList_load_mid rfl 32 (.tmp 7) rfl W.heap.size 4 rfl (q.lt.cellsL S1 S2) _ (HR.out _ (by first | exact HB6.out | exact HB5.out | exact HB4.out | exact HB3.out | exact HB2.out | exact HB1.out | exact HB0.out)).2.1 Try.underlying32 rfl hszl ?_)
          | (refine wpList_load_mid rfl 32 (.tmp 26) rfl W.heap.size 4 rfl (q.lt.cellsL S1 S2) _ (HR.out _ (by first | exact HB6.out | exact HB5.out | exact HB4.out | exact HB3.out | exact HB2.out | exact HB1.out | exact HB0.out)).2.1 Try.underlying32 rfl hszl ?_)
          | (go_at_call 10; ((with_reducible refine (CL.out _ HB0.out).mono ?_); rintro e w1 ⟨rfl, hb⟩; have HB1 : Hid (Below (W.alloc (.cells (q.cells S1 S2) 34)).heap.size (W.alloc (.cells (q.cells S1 S2) 34)) w1) := acc HB0.out hb; clear hb))
          | (go_at_call 11; ((with_reducible refine (CA.out _ HB1.out).mono ?_); rintro e w2 ⟨rfl, hb⟩; have HB2 : Hid (Below (W.alloc (.cells (q.cells S1 S2) 34)).heap.size (W.alloc (.cells (q.cells S1 S2) 34)) w2) := acc HB1.out hb; clear hb))
          | (go_at_call 12; ((with_reducible refine (PQ.out _ HB2.out).mono ?_); rintro e w3 ⟨rfl, hb⟩; have HB3 : Hid (Below (W.alloc (.cells (q.cells S1 S2) 34)).heap.size (W.alloc (.cells (q.cells S1 S2) 34)) w3) := acc HB2.out hb; clear hb))
          | (go_at_call 17; ((with_reducible refine (PL.out _ HB3.out).mono ?_); rintro e w4 ⟨rfl, hb⟩; have HB4 : Hid (Below (W.alloc (.cells (q.cells S1 S2) 34)).heap.size (W.alloc (.cells (q.cells S1 S2) 34)) w4) := acc HB3.out hb; clear hb; have hsq := (HR.out _ HB4.out).2.2)))
        go_ret
        exact ⟨rfl, BW.out.trans (HB4.out.mono (by simp))⟩
      · rw [if_neg h0] at hi
        have e0 : (q.sq == 0) = false := by rw [beq_eq_false_iff_ne]; exact h0
        have hts := putL_small q.lt
        rw [hi] at pl hts
        have hts : t.size ≤ 435456 := hts
        have PL : Hid (∀ w, Below (W.alloc (.cells (q.cells S1 S2) 34)).heap.size (W.alloc (.cells (q.cells S1 S2) 34)) w → Calls Try.prog 17 #[.agg (q.lt.cells S1 S2)] w fun e w' => e = .returned (.tuple #[.string t, .bool true]) ∧ Below w.heap.size w w') := pl
        have e1 : ((b.size : Int) == 8 + (t.size : Int)) = true := by rw [beq_iff_eq]; omega
        have e2 : ((b.extract 8 (8 + t.size)).toList == t.toList) = true := by rw [← hbs, hbx]; simp
        clear pl hi hbx h0
        go_enter Try.func7, Try.ntmps7
        go_wp2_with (first
          | (refine wpList_load_row rfl 34 (.tmp 1) rfl W.heap.size rfl 34 (q.cells S1 S2) (0, 0) _ (HR.out _ (by first | exact HB6.out | exact HB5.out | exact HB4.out | exact HB3.out | exact HB2.out | exact HB1.out | exact HB0.out)).1 Try.underlying34 rfl hszp ?_)
          | (refine wpList_load_mid rfl 32 (.tmp 7) rfl W.heap.size 4 rfl (q.lt.cellsL S1 S2) _ (HR.out _ (by first | exact HB6.out | exact HB5.out | exact HB4.out | exact HB3.out | exact HB2.out | exact HB1.out | exact HB0.out)).2.1 Try.underlying32 rfl hszl ?_)
          | (refine wpList_load_mid rfl 32 (.tmp 26) rfl W.heap.size 4 rfl (q.lt.cellsL S1 S2) _ (HR.out _ (by first | exact HB6.out | exact HB5.out | exact HB4.out | exact HB3.out | exact HB2.out | exact HB1.out | exact HB0.out)).2.1 Try.underlying32 rfl hszl ?_)
          | (go_at_call 10; ((with_reducible refine (CL.out _ HB0.out).mono ?_); rintro e w1 ⟨rfl, hb⟩; have HB1 : Hid (Below (W.alloc (.cells (q.cells S1 S2) 34)).heap.size (W.alloc (.cells (q.cells S1 S2) 34)) w1) := acc HB0.out hb; clear hb))
          | (go_at_call 11; ((with_reducible refine (CA.out _ HB1.out).mono ?_); rintro e w2 ⟨rfl, hb⟩; have HB2 : Hid (Below (W.alloc (.cells (q.cells S1 S2) 34)).heap.size (W.alloc (.cells (q.cells S1 S2) 34)) w2) := acc HB1.out hb; clear hb))
          | (go_at_call 12; ((with_reducible refine (PQ.out _ HB2.out).mono ?_); rintro e w3 ⟨rfl, hb⟩; have HB3 : Hid (Below (W.alloc (.cells (q.cells S1 S2) 34)).heap.size (W.alloc (.cells (q.cells S1 S2) 34)) w3) := acc HB2.out hb; clear hb))
          | (go_at_call 17; ((with_reducible refine (PL.out _ HB3.out).mono ?_); rintro e w4 ⟨rfl, hb⟩; have HB4 : Hid (Below (W.alloc (.cells (q.cells S1 S2) 34)).heap.size (W.alloc (.cells (q.cells S1 S2) 34)) w4) := acc HB3.out hb; clear hb; have hsq := (HR.out _ HB4.out).2.2)))
        go_ret
        exact ⟨rfl, BW.out.trans (HB4.out.mono (by simp))⟩
end Go.Proofs.Ytbnmddopgbhapaa
