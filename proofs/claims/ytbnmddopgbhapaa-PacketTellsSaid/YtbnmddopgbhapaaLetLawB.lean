/-
  Two letters have the same bytes just if they are the same: the walk.
-/
import Derived.Test.YtbnmddopgbhapaaLetLight
namespace Go.Proofs.Ytbnmddopgbhapaa
open Go.RowKit

theorem toList_inj {a b : ByteArray} (h : a.toList = b.toList) : a = b := by
  rw [Lib.toList_data, Lib.toList_data] at h
  exact ba_ext h
theorem sameLB_iff (l m : LV) : sameLB l m = true ↔ l = m := by
  constructor
  · intro h
    simp only [sameLB, sameTB, Bool.and_eq_true, beq_iff_eq, sameL_iff] at h
    obtain ⟨h1, h2, h3, h4, ⟨h5, h6, h7, h8, h9⟩, ⟨h10, h11, h12, h13, h14, h15⟩, ⟨h16, h17⟩, h18, h19, h20, h21⟩ := h
    have h6 := toList_inj h6
    have h7 := toList_inj h7
    have h8 := toList_inj h8
    have h11 := toList_inj h11
    have h14 := toList_inj h14
    cases l; cases m
    simp only at *
    subst h1 h2 h3 h4 h5 h6 h7 h8 h9 h10 h11 h12 h13 h14 h15 h18 h19 h20 h21
    have h16 := Int.ofNat.inj h16
    have h17 := Int.ofNat.inj h17
    subst h16 h17
    rfl
  · rintro rfl
    simp [sameLB, sameTB, sameL_iff]
theorem two_eq {l m : LV} {a b : ByteArray} (hF : l.Fine) (hG : m.Fine) (h : putL l = some a) (g : putL m = some b) : (a.toList == b.toList) = sameLB l m := by
  cases e : sameLB l m with
  | true =>
    obtain rfl := (sameLB_iff l m).1 e
    rw [h] at g
    obtain rfl := Option.some.inj g
    simp
  | false =>
    rw [beq_eq_false_iff_ne]
    intro hab
    obtain rfl := toList_inj hab
    rw [(sameLB_iff l m).2 (putL_inj hF.afB hF.auB hG.afB hG.auB h g)] at e
    cases e
set_option maxRecDepth 20000 in
set_option maxHeartbeats 8000000 in
theorem letterTwo_any (l m : LV) (S1 S2 R1 R2 : Value) (W : World) (hF : l.Fine) (hG : m.Fine) (h1 : SlAt W S1 l.ti) (h2 : SlAt W S2 l.li) (h3 : SlAt W R1 m.ti) (h4 : SlAt W R2 m.li) :
    Calls Try.prog 5 #[.agg (l.cells S1 S2), .agg (m.cells R1 R2)] W fun e w' => e = .returned (.bool true) ∧ Below W.heap.size W w' := by
  have bw : Below W.heap.size W ((W.alloc (.cells (l.cells S1 S2) 32)).alloc (.cells (m.cells R1 R2) 32)) := ((Below.refl W.heap.size W).alloc (Nat.le_refl _) _).alloc (by simp) _
  have BW := Lib.hid bw
  have HB0 : Hid (Below ((W.alloc (.cells (l.cells S1 S2) 32)).alloc (.cells (m.cells R1 R2) 32)).heap.size ((W.alloc (.cells (l.cells S1 S2) 32)).alloc (.cells (m.cells R1 R2) 32)) ((W.alloc (.cells (l.cells S1 S2) 32)).alloc (.cells (m.cells R1 R2) 32))) := Below.refl _ _
  have up : ∀ w, Below ((W.alloc (.cells (l.cells S1 S2) 32)).alloc (.cells (m.cells R1 R2) 32)).heap.size ((W.alloc (.cells (l.cells S1 S2) 32)).alloc (.cells (m.cells R1 R2) 32)) w → Below W.heap.size W w := fun w hb => bw.trans (hb.mono (by simp; omega))
  have hszl : (Try.prog.info? 32).map (·.size) = some (l.cells S1 S2).size := by kernel_rfl
  have hszm : (Try.prog.info? 32).map (·.size) = some (m.cells R1 R2).size := by kernel_rfl
  have HR : Hid (∀ w, Below ((W.alloc (.cells (l.cells S1 S2) 32)).alloc (.cells (m.cells R1 R2) 32)).heap.size ((W.alloc (.cells (l.cells S1 S2) 32)).alloc (.cells (m.cells R1 R2) 32)) w → w.heap[W.heap.size]? = some (.cells (l.cells S1 S2) 32) ∧ w.heap[W.heap.size + 1]? = some (.cells (m.cells R1 R2) 32)) := fun w hb => by
    have q2 := heap_alloc_new (W.alloc (.cells (l.cells S1 S2) 32)) (.cells (m.cells R1 R2) 32)
    exact ⟨(hb.block _ (by simp; omega)).trans ((Lib.alloc_old _ _ _ (by simp)).trans (heap_alloc_new W _)), (hb.block _ (by simp)).trans (by simpa using q2)⟩
  have CA : Hid (∀ w, Below ((W.alloc (.cells (l.cells S1 S2) 32)).alloc (.cells (m.cells R1 R2) 32)).heap.size ((W.alloc (.cells (l.cells S1 S2) 32)).alloc (.cells (m.cells R1 R2) 32)) w → Calls Try.prog 11 #[] w fun e w' => e = .returned (.bool true) ∧ Below w.heap.size w w') := fun w _ => alive_any w
  have cl : ∀ w, Below ((W.alloc (.cells (l.cells S1 S2) 32)).alloc (.cells (m.cells R1 R2) 32)).heap.size ((W.alloc (.cells (l.cells S1 S2) 32)).alloc (.cells (m.cells R1 R2) 32)) w → Calls Try.prog 10 #[.agg (l.cells S1 S2)] w fun e w' => e = .returned (.bool (lightB l)) ∧ Below w.heap.size w w' := fun w hb => light_any l S1 S2 w hF (h1.below (up w hb)) (h2.below (up w hb))
  have cm : ∀ w, Below ((W.alloc (.cells (l.cells S1 S2) 32)).alloc (.cells (m.cells R1 R2) 32)).heap.size ((W.alloc (.cells (l.cells S1 S2) 32)).alloc (.cells (m.cells R1 R2) 32)) w → Calls Try.prog 10 #[.agg (m.cells R1 R2)] w fun e w' => e = .returned (.bool (lightB m)) ∧ Below w.heap.size w w' := fun w hb => light_any m R1 R2 w hG (h3.below (up w hb)) (h4.below (up w hb))
  have pl : ∀ w, Below ((W.alloc (.cells (l.cells S1 S2) 32)).alloc (.cells (m.cells R1 R2) 32)).heap.size ((W.alloc (.cells (l.cells S1 S2) 32)).alloc (.cells (m.cells R1 R2) 32)) w → Calls Try.prog 17 #[.agg (l.cells S1 S2)] w (PutPost w l) := fun w hb => lput_any l S1 S2 w hF (h1.below (up w hb)) (h2.below (up w hb))
  have pm : ∀ w, Below ((W.alloc (.cells (l.cells S1 S2) 32)).alloc (.cells (m.cells R1 R2) 32)).heap.size ((W.alloc (.cells (l.cells S1 S2) 32)).alloc (.cells (m.cells R1 R2) 32)) w → Calls Try.prog 17 #[.agg (m.cells R1 R2)] w (PutPost w m) := fun w hb => lput_any m R1 R2 w hG (h3.below (up w hb)) (h4.below (up w hb))
  have cs : ∀ w, Below ((W.alloc (.cells (l.cells S1 S2) 32)).alloc (.cells (m.cells R1 R2) 32)).heap.size ((W.alloc (.cells (l.cells S1 S2) 32)).alloc (.cells (m.cells R1 R2) 32)) w → Calls Try.prog 19 #[.agg (l.cells S1 S2), .agg (m.cells R1 R2)] w fun e w' => e = .returned (.bool (sameLB l m)) ∧ Below w.heap.size w w' := fun w hb => sameLetter_any l m S1 S2 R1 R2 w (h1.below (up w hb)) (h2.below (up w hb)) (h3.below (up w hb)) (h4.below (up w hb))
  have HT : Hid (∀ a b, putL l = some a → putL m = some b → (a.toList == b.toList) = sameLB l m) := fun a b h g => two_eq hF hG h g
  clear hF hG h1 h2 h3 h4 up bw
  unfold PutPost at pl pm
  generalize lightB l = q1 at *
  generalize lightB m = q2 at *
  have CL := Lib.hid cl
  have CM := Lib.hid cm
  have CS0 := Lib.hid cs
  clear cl cm cs
  cases q1 with
  | false =>
    clear pl pm
    go_enter Try.func5, Try.ntmps5
    go_wp2_with (first
      | (refine wpList_load_row rfl 32 (.tmp 2) rfl W.heap.size rfl 32 (l.cells S1 S2) (0, 0) _ (HR.out _ (by first | exact HB6.out | exact HB5.out | exact HB4.out | exact HB3.out | exact HB2.out | exact HB1.out | exact HB0.out)).1 Try.underlying32 rfl hszl ?_)
      | (refine wpList_load_rowG (by rfl) 32 (.tmp 2) rfl W.heap.size rfl 32 (l.cells S1 S2) (0, 0) _ (HR.out _ (by first | exact HB6.out | exact HB5.out | exact HB4.out | exact HB3.out | exact HB2.out | exact HB1.out | exact HB0.out)).1 Try.underlying32 rfl hszl ?_)
      | (refine wpList_load_row rfl 32 (.tmp 3) rfl (W.heap.size + 1) rfl 32 (m.cells R1 R2) (0, 0) _ (HR.out _ (by first | exact HB6.out | exact HB5.out | exact HB4.out | exact HB3.out | exact HB2.out | exact HB1.out | exact HB0.out)).2 Try.underlying32 rfl hszm ?_)
      | (refine wpList_load_rowG (by rfl) 32 (.tmp 3) rfl (W.heap.size + 1) rfl 32 (m.cells R1 R2) (0, 0) _ (HR.out _ (by first | exact HB6.out | exact HB5.out | exact HB4.out | exact HB3.out | exact HB2.out | exact HB1.out | exact HB0.out)).2 Try.underlying32 rfl hszm ?_)
      | (go_at_call 10; ((with_reducible refine (CL.out _ HB0.out).mono ?_); rintro e w1 ⟨rfl, hb⟩; have HB1 : Hid (Below ((W.alloc (.cells (l.cells S1 S2) 32)).alloc (.cells (m.cells R1 R2) 32)).heap.size ((W.alloc (.cells (l.cells S1 S2) 32)).alloc (.cells (m.cells R1 R2) 32)) w1) := acc HB0.out hb; clear hb))
      | (go_at_call 11; ((with_reducible refine (CA.out _ HB1.out).mono ?_); rintro e w2 ⟨rfl, hb⟩; have HB2 : Hid (Below ((W.alloc (.cells (l.cells S1 S2) 32)).alloc (.cells (m.cells R1 R2) 32)).heap.size ((W.alloc (.cells (l.cells S1 S2) 32)).alloc (.cells (m.cells R1 R2) 32)) w2) := acc HB1.out hb; clear hb)))
    go_ret
    exact ⟨rfl, BW.out.trans (HB2.out.mono (by simp; omega))⟩
  | true =>
    cases q2 with
    | false =>
      clear pl pm
      go_enter Try.func5, Try.ntmps5
      go_wp2_with (first
        | (refine wpList_load_row rfl 32 (.tmp 2) rfl W.heap.size rfl 32 (l.cells S1 S2) (0, 0) _ (HR.out _ (by first | exact HB6.out | exact HB5.out | exact HB4.out | exact HB3.out | exact HB2.out | exact HB1.out | exact HB0.out)).1 Try.underlying32 rfl hszl ?_)
        | (refine wpList_load_rowG (by rfl) 32 (.tmp 2) rfl W.heap.size rfl 32 (l.cells S1 S2) (0, 0) _ (HR.out _ (by first | exact HB6.out | exact HB5.out | exact HB4.out | exact HB3.out | exact HB2.out | exact HB1.out | exact HB0.out)).1 Try.underlying32 rfl hszl ?_)
        | (refine wpList_load_row rfl 32 (.tmp 3) rfl (W.heap.size + 1) rfl 32 (m.cells R1 R2) (0, 0) _ (HR.out _ (by first | exact HB6.out | exact HB5.out | exact HB4.out | exact HB3.out | exact HB2.out | exact HB1.out | exact HB0.out)).2 Try.underlying32 rfl hszm ?_)
        | (refine wpList_load_rowG (by rfl) 32 (.tmp 3) rfl (W.heap.size + 1) rfl 32 (m.cells R1 R2) (0, 0) _ (HR.out _ (by first | exact HB6.out | exact HB5.out | exact HB4.out | exact HB3.out | exact HB2.out | exact HB1.out | exact HB0.out)).2 Try.underlying32 rfl hszm ?_)
        | (go_at_call 10; ((with_reducible refine (CL.out _ HB0.out).mono ?_); rintro e w1 ⟨rfl, hb⟩; have HB1 : Hid (Below ((W.alloc (.cells (l.cells S1 S2) 32)).alloc (.cells (m.cells R1 R2) 32)).heap.size ((W.alloc (.cells (l.cells S1 S2) 32)).alloc (.cells (m.cells R1 R2) 32)) w1) := acc HB0.out hb; clear hb))
        | (go_at_call 10; ((with_reducible refine (CM.out _ HB1.out).mono ?_); rintro e w2 ⟨rfl, hb⟩; have HB2 : Hid (Below ((W.alloc (.cells (l.cells S1 S2) 32)).alloc (.cells (m.cells R1 R2) 32)).heap.size ((W.alloc (.cells (l.cells S1 S2) 32)).alloc (.cells (m.cells R1 R2) 32)) w2) := acc HB1.out hb; clear hb))
        | (go_at_call 11; ((with_reducible refine (CA.out _ HB2.out).mono ?_); rintro e w3 ⟨rfl, hb⟩; have HB3 : Hid (Below ((W.alloc (.cells (l.cells S1 S2) 32)).alloc (.cells (m.cells R1 R2) 32)).heap.size ((W.alloc (.cells (l.cells S1 S2) 32)).alloc (.cells (m.cells R1 R2) 32)) w3) := acc HB2.out hb; clear hb)))
      go_ret
      exact ⟨rfl, BW.out.trans (HB3.out.mono (by simp; omega))⟩
    | true =>
      generalize hp1 : putL l = p1 at *
      generalize hp2 : putL m = p2 at *
      cases p1 with
      | none =>
        cases p2 with
        | none =>
          have PL : Hid (∀ w, Below ((W.alloc (.cells (l.cells S1 S2) 32)).alloc (.cells (m.cells R1 R2) 32)).heap.size ((W.alloc (.cells (l.cells S1 S2) 32)).alloc (.cells (m.cells R1 R2) 32)) w → Calls Try.prog 17 #[.agg (l.cells S1 S2)] w fun e w' => e = .returned (.tuple #[.string ⟨#[]⟩, .bool false]) ∧ Below w.heap.size w w') := pl
          have PM : Hid (∀ w, Below ((W.alloc (.cells (l.cells S1 S2) 32)).alloc (.cells (m.cells R1 R2) 32)).heap.size ((W.alloc (.cells (l.cells S1 S2) 32)).alloc (.cells (m.cells R1 R2) 32)) w → Calls Try.prog 17 #[.agg (m.cells R1 R2)] w fun e w' => e = .returned (.tuple #[.string ⟨#[]⟩, .bool false]) ∧ Below w.heap.size w w') := pm
          clear pl pm
          go_enter Try.func5, Try.ntmps5
          go_wp2_with (first
            | (refine wpList_load_row rfl 32 (.tmp 2) rfl W.heap.size rfl 32 (l.cells S1 S2) (0, 0) _ (HR.out _ (by first | exact HB6.out | exact HB5.out | exact HB4.out | exact HB3.out | exact HB2.out | exact HB1.out | exact HB0.out)).1 Try.underlying32 rfl hszl ?_)
            | (refine wpList_load_rowG (by rfl) 32 (.tmp 2) rfl W.heap.size rfl 32 (l.cells S1 S2) (0, 0) _ (HR.out _ (by first | exact HB6.out | exact HB5.out | exact HB4.out | exact HB3.out | exact HB2.out | exact HB1.out | exact HB0.out)).1 Try.underlying32 rfl hszl ?_)
            | (refine wpList_load_row rfl 32 (.tmp 3) rfl (W.heap.size + 1) rfl 32 (m.cells R1 R2) (0, 0) _ (HR.out _ (by first | exact HB6.out | exact HB5.out | exact HB4.out | exact HB3.out | exact HB2.out | exact HB1.out | exact HB0.out)).2 Try.underlying32 rfl hszm ?_)
            | (refine wpList_load_rowG (by rfl) 32 (.tmp 3) rfl (W.heap.size + 1) rfl 32 (m.cells R1 R2) (0, 0) _ (HR.out _ (by first | exact HB6.out | exact HB5.out | exact HB4.out | exact HB3.out | exact HB2.out | exact HB1.out | exact HB0.out)).2 Try.underlying32 rfl hszm ?_)
            | (go_at_call 10; ((with_reducible refine (CL.out _ HB0.out).mono ?_); rintro e w1 ⟨rfl, hb⟩; have HB1 : Hid (Below ((W.alloc (.cells (l.cells S1 S2) 32)).alloc (.cells (m.cells R1 R2) 32)).heap.size ((W.alloc (.cells (l.cells S1 S2) 32)).alloc (.cells (m.cells R1 R2) 32)) w1) := acc HB0.out hb; clear hb))
            | (go_at_call 10; ((with_reducible refine (CM.out _ HB1.out).mono ?_); rintro e w2 ⟨rfl, hb⟩; have HB2 : Hid (Below ((W.alloc (.cells (l.cells S1 S2) 32)).alloc (.cells (m.cells R1 R2) 32)).heap.size ((W.alloc (.cells (l.cells S1 S2) 32)).alloc (.cells (m.cells R1 R2) 32)) w2) := acc HB1.out hb; clear hb))
            | (go_at_call 11; ((with_reducible refine (CA.out _ HB2.out).mono ?_); rintro e w3 ⟨rfl, hb⟩; have HB3 : Hid (Below ((W.alloc (.cells (l.cells S1 S2) 32)).alloc (.cells (m.cells R1 R2) 32)).heap.size ((W.alloc (.cells (l.cells S1 S2) 32)).alloc (.cells (m.cells R1 R2) 32)) w3) := acc HB2.out hb; clear hb))
            | (go_at_call 17; ((with_reducible refine (PL.out _ HB3.out).mono ?_); rintro e w4 ⟨rfl, hb⟩; have HB4 : Hid (Below ((W.alloc (.cells (l.cells S1 S2) 32)).alloc (.cells (m.cells R1 R2) 32)).heap.size ((W.alloc (.cells (l.cells S1 S2) 32)).alloc (.cells (m.cells R1 R2) 32)) w4) := acc HB3.out hb; clear hb))
            | (go_at_call 17; ((with_reducible refine (PM.out _ HB4.out).mono ?_); rintro e w5 ⟨rfl, hb⟩; have HB5 : Hid (Below ((W.alloc (.cells (l.cells S1 S2) 32)).alloc (.cells (m.cells R1 R2) 32)).heap.size ((W.alloc (.cells (l.cells S1 S2) 32)).alloc (.cells (m.cells R1 R2) 32)) w5) := acc HB4.out hb; clear hb)))
          go_ret
          exact ⟨rfl, BW.out.trans (HB5.out.mono (by simp; omega))⟩
        | some b =>
          have PL : Hid (∀ w, Below ((W.alloc (.cells (l.cells S1 S2) 32)).alloc (.cells (m.cells R1 R2) 32)).heap.size ((W.alloc (.cells (l.cells S1 S2) 32)).alloc (.cells (m.cells R1 R2) 32)) w → Calls Try.prog 17 #[.agg (l.cells S1 S2)] w fun e w' => e = .returned (.tuple #[.string ⟨#[]⟩, .bool false]) ∧ Below w.heap.size w w') := pl
          have PM : Hid (∀ w, Below ((W.alloc (.cells (l.cells S1 S2) 32)).alloc (.cells (m.cells R1 R2) 32)).heap.size ((W.alloc (.cells (l.cells S1 S2) 32)).alloc (.cells (m.cells R1 R2) 32)) w → Calls Try.prog 17 #[.agg (m.cells R1 R2)] w fun e w' => e = .returned (.tuple #[.string b, .bool true]) ∧ Below w.heap.size w w') := pm
          clear pl pm
          go_enter Try.func5, Try.ntmps5
          go_wp2_with (first
            | (refine wpList_load_row rfl 32 (.tmp 2) rfl W.heap.size rfl 32 (l.cells S1 S2) (0, 0) _ (HR.out _ (by first | exact HB6.out | exact HB5.out | exact HB4.out | exact HB3.out | exact HB2.out | exact HB1.out | exact HB0.out)).1 Try.underlying32 rfl hszl ?_)
            | (refine wpList_load_rowG (by rfl) 32 (.tmp 2) rfl W.heap.size rfl 32 (l.cells S1 S2) (0, 0) _ (HR.out _ (by first | exact HB6.out | exact HB5.out | exact HB4.out | exact HB3.out | exact HB2.out | exact HB1.out | exact HB0.out)).1 Try.underlying32 rfl hszl ?_)
            | (refine wpList_load_row rfl 32 (.tmp 3) rfl (W.heap.size + 1) rfl 32 (m.cells R1 R2) (0, 0) _ (HR.out _ (by first | exact HB6.out | exact HB5.out | exact HB4.out | exact HB3.out | exact HB2.out | exact HB1.out | exact HB0.out)).2 Try.underlying32 rfl hszm ?_)
            | (refine wpList_load_rowG (by rfl) 32 (.tmp 3) rfl (W.heap.size + 1) rfl 32 (m.cells R1 R2) (0, 0) _ (HR.out _ (by first | exact HB6.out | exact HB5.out | exact HB4.out | exact HB3.out | exact HB2.out | exact HB1.out | exact HB0.out)).2 Try.underlying32 rfl hszm ?_)
            | (go_at_call 10; ((with_reducible refine (CL.out _ HB0.out).mono ?_); rintro e w1 ⟨rfl, hb⟩; have HB1 : Hid (Below ((W.alloc (.cells (l.cells S1 S2) 32)).alloc (.cells (m.cells R1 R2) 32)).heap.size ((W.alloc (.cells (l.cells S1 S2) 32)).alloc (.cells (m.cells R1 R2) 32)) w1) := acc HB0.out hb; clear hb))
            | (go_at_call 10; ((with_reducible refine (CM.out _ HB1.out).mono ?_); rintro e w2 ⟨rfl, hb⟩; have HB2 : Hid (Below ((W.alloc (.cells (l.cells S1 S2) 32)).alloc (.cells (m.cells R1 R2) 32)).heap.size ((W.alloc (.cells (l.cells S1 S2) 32)).alloc (.cells (m.cells R1 R2) 32)) w2) := acc HB1.out hb; clear hb))
            | (go_at_call 11; ((with_reducible refine (CA.out _ HB2.out).mono ?_); rintro e w3 ⟨rfl, hb⟩; have HB3 : Hid (Below ((W.alloc (.cells (l.cells S1 S2) 32)).alloc (.cells (m.cells R1 R2) 32)).heap.size ((W.alloc (.cells (l.cells S1 S2) 32)).alloc (.cells (m.cells R1 R2) 32)) w3) := acc HB2.out hb; clear hb))
            | (go_at_call 17; ((with_reducible refine (PL.out _ HB3.out).mono ?_); rintro e w4 ⟨rfl, hb⟩; have HB4 : Hid (Below ((W.alloc (.cells (l.cells S1 S2) 32)).alloc (.cells (m.cells R1 R2) 32)).heap.size ((W.alloc (.cells (l.cells S1 S2) 32)).alloc (.cells (m.cells R1 R2) 32)) w4) := acc HB3.out hb; clear hb))
            | (go_at_call 17; ((with_reducible refine (PM.out _ HB4.out).mono ?_); rintro e w5 ⟨rfl, hb⟩; have HB5 : Hid (Below ((W.alloc (.cells (l.cells S1 S2) 32)).alloc (.cells (m.cells R1 R2) 32)).heap.size ((W.alloc (.cells (l.cells S1 S2) 32)).alloc (.cells (m.cells R1 R2) 32)) w5) := acc HB4.out hb; clear hb)))
          go_ret
          exact ⟨rfl, BW.out.trans (HB5.out.mono (by simp; omega))⟩
      | some a =>
        cases p2 with
        | none =>
          have PL : Hid (∀ w, Below ((W.alloc (.cells (l.cells S1 S2) 32)).alloc (.cells (m.cells R1 R2) 32)).heap.size ((W.alloc (.cells (l.cells S1 S2) 32)).alloc (.cells (m.cells R1 R2) 32)) w → Calls Try.prog 17 #[.agg (l.cells S1 S2)] w fun e w' => e = .returned (.tuple #[.string a, .bool true]) ∧ Below w.heap.size w w') := pl
          have PM : Hid (∀ w, Below ((W.alloc (.cells (l.cells S1 S2) 32)).alloc (.cells (m.cells R1 R2) 32)).heap.size ((W.alloc (.cells (l.cells S1 S2) 32)).alloc (.cells (m.cells R1 R2) 32)) w → Calls Try.prog 17 #[.agg (m.cells R1 R2)] w fun e w' => e = .returned (.tuple #[.string ⟨#[]⟩, .bool false]) ∧ Below w.heap.size w w') := pm
          clear pl pm
          go_enter Try.func5, Try.ntmps5
          go_wp2_with (first
            | (refine wpList_load_row rfl 32 (.tmp 2) rfl W.heap.size rfl 32 (l.cells S1 S2) (0, 0) _ (HR.out _ (by first | exact HB6.out | exact HB5.out | exact HB4.out | exact HB3.out | exact HB2.out | exact HB1.out | exact HB0.out)).1 Try.underlying32 rfl hszl ?_)
            | (refine wpList_load_rowG (by rfl) 32 (.tmp 2) rfl W.heap.size rfl 32 (l.cells S1 S2) (0, 0) _ (HR.out _ (by first | exact HB6.out | exact HB5.out | exact HB4.out | exact HB3.out | exact HB2.out | exact HB1.out | exact HB0.out)).1 Try.underlying32 rfl hszl ?_)
            | (refine wpList_load_row rfl 32 (.tmp 3) rfl (W.heap.size + 1) rfl 32 (m.cells R1 R2) (0, 0) _ (HR.out _ (by first | exact HB6.out | exact HB5.out | exact HB4.out | exact HB3.out | exact HB2.out | exact HB1.out | exact HB0.out)).2 Try.underlying32 rfl hszm ?_)
            | (refine wpList_load_rowG (by rfl) 32 (.tmp 3) rfl (W.heap.size + 1) rfl 32 (m.cells R1 R2) (0, 0) _ (HR.out _ (by first | exact HB6.out | exact HB5.out | exact HB4.out | exact HB3.out | exact HB2.out | exact HB1.out | exact HB0.out)).2 Try.underlying32 rfl hszm ?_)
            | (go_at_call 10; ((with_reducible refine (CL.out _ HB0.out).mono ?_); rintro e w1 ⟨rfl, hb⟩; have HB1 : Hid (Below ((W.alloc (.cells (l.cells S1 S2) 32)).alloc (.cells (m.cells R1 R2) 32)).heap.size ((W.alloc (.cells (l.cells S1 S2) 32)).alloc (.cells (m.cells R1 R2) 32)) w1) := acc HB0.out hb; clear hb))
            | (go_at_call 10; ((with_reducible refine (CM.out _ HB1.out).mono ?_); rintro e w2 ⟨rfl, hb⟩; have HB2 : Hid (Below ((W.alloc (.cells (l.cells S1 S2) 32)).alloc (.cells (m.cells R1 R2) 32)).heap.size ((W.alloc (.cells (l.cells S1 S2) 32)).alloc (.cells (m.cells R1 R2) 32)) w2) := acc HB1.out hb; clear hb))
            | (go_at_call 11; ((with_reducible refine (CA.out _ HB2.out).mono ?_); rintro e w3 ⟨rfl, hb⟩; have HB3 : Hid (Below ((W.alloc (.cells (l.cells S1 S2) 32)).alloc (.cells (m.cells R1 R2) 32)).heap.size ((W.alloc (.cells (l.cells S1 S2) 32)).alloc (.cells (m.cells R1 R2) 32)) w3) := acc HB2.out hb; clear hb))
            | (go_at_call 17; ((with_reducible refine (PL.out _ HB3.out).mono ?_); rintro e w4 ⟨rfl, hb⟩; have HB4 : Hid (Below ((W.alloc (.cells (l.cells S1 S2) 32)).alloc (.cells (m.cells R1 R2) 32)).heap.size ((W.alloc (.cells (l.cells S1 S2) 32)).alloc (.cells (m.cells R1 R2) 32)) w4) := acc HB3.out hb; clear hb))
            | (go_at_call 17; ((with_reducible refine (PM.out _ HB4.out).mono ?_); rintro e w5 ⟨rfl, hb⟩; have HB5 : Hid (Below ((W.alloc (.cells (l.cells S1 S2) 32)).alloc (.cells (m.cells R1 R2) 32)).heap.size ((W.alloc (.cells (l.cells S1 S2) 32)).alloc (.cells (m.cells R1 R2) 32)) w5) := acc HB4.out hb; clear hb)))
          go_ret
          exact ⟨rfl, BW.out.trans (HB5.out.mono (by simp; omega))⟩
        | some b =>
          have PL : Hid (∀ w, Below ((W.alloc (.cells (l.cells S1 S2) 32)).alloc (.cells (m.cells R1 R2) 32)).heap.size ((W.alloc (.cells (l.cells S1 S2) 32)).alloc (.cells (m.cells R1 R2) 32)) w → Calls Try.prog 17 #[.agg (l.cells S1 S2)] w fun e w' => e = .returned (.tuple #[.string a, .bool true]) ∧ Below w.heap.size w w') := pl
          have PM : Hid (∀ w, Below ((W.alloc (.cells (l.cells S1 S2) 32)).alloc (.cells (m.cells R1 R2) 32)).heap.size ((W.alloc (.cells (l.cells S1 S2) 32)).alloc (.cells (m.cells R1 R2) 32)) w → Calls Try.prog 17 #[.agg (m.cells R1 R2)] w fun e w' => e = .returned (.tuple #[.string b, .bool true]) ∧ Below w.heap.size w w') := pm
          have hab := HT.out a b rfl rfl
          generalize sameLB l m = q at *
          have CS : Hid (∀ w, Below ((W.alloc (.cells (l.cells S1 S2) 32)).alloc (.cells (m.cells R1 R2) 32)).heap.size ((W.alloc (.cells (l.cells S1 S2) 32)).alloc (.cells (m.cells R1 R2) 32)) w → Calls Try.prog 19 #[.agg (l.cells S1 S2), .agg (m.cells R1 R2)] w fun e w' => e = .returned (.bool q) ∧ Below w.heap.size w w') := CS0.out
          have hqq : (q == q) = true := by cases q <;> rfl
          clear pl pm CS0 HT
          go_enter Try.func5, Try.ntmps5
          go_wp2_with (first
            | (refine wpList_load_row rfl 32 (.tmp 2) rfl W.heap.size rfl 32 (l.cells S1 S2) (0, 0) _ (HR.out _ (by first | exact HB6.out | exact HB5.out | exact HB4.out | exact HB3.out | exact HB2.out | exact HB1.out | exact HB0.out)).1 Try.underlying32 rfl hszl ?_)
            | (refine wpList_load_rowG (by rfl) 32 (.tmp 2) rfl W.heap.size rfl 32 (l.cells S1 S2) (0, 0) _ (HR.out _ (by first | exact HB6.out | exact HB5.out | exact HB4.out | exact HB3.out | exact HB2.out | exact HB1.out | exact HB0.out)).1 Try.underlying32 rfl hszl ?_)
            | (refine wpList_load_row rfl 32 (.tmp 3) rfl (W.heap.size + 1) rfl 32 (m.cells R1 R2) (0, 0) _ (HR.out _ (by first | exact HB6.out | exact HB5.out | exact HB4.out | exact HB3.out | exact HB2.out | exact HB1.out | exact HB0.out)).2 Try.underlying32 rfl hszm ?_)
            | (refine wpList_load_rowG (by rfl) 32 (.tmp 3) rfl (W.heap.size + 1) rfl 32 (m.cells R1 R2) (0, 0) _ (HR.out _ (by first | exact HB6.out | exact HB5.out | exact HB4.out | exact HB3.out | exact HB2.out | exact HB1.out | exact HB0.out)).2 Try.underlying32 rfl hszm ?_)
            | (go_at_call 10; ((with_reducible refine (CL.out _ HB0.out).mono ?_); rintro e w1 ⟨rfl, hb⟩; have HB1 : Hid (Below ((W.alloc (.cells (l.cells S1 S2) 32)).alloc (.cells (m.cells R1 R2) 32)).heap.size ((W.alloc (.cells (l.cells S1 S2) 32)).alloc (.cells (m.cells R1 R2) 32)) w1) := acc HB0.out hb; clear hb))
            | (go_at_call 10; ((with_reducible refine (CM.out _ HB1.out).mono ?_); rintro e w2 ⟨rfl, hb⟩; have HB2 : Hid (Below ((W.alloc (.cells (l.cells S1 S2) 32)).alloc (.cells (m.cells R1 R2) 32)).heap.size ((W.alloc (.cells (l.cells S1 S2) 32)).alloc (.cells (m.cells R1 R2) 32)) w2) := acc HB1.out hb; clear hb))
            | (go_at_call 11; ((with_reducible refine (CA.out _ HB2.out).mono ?_); rintro e w3 ⟨rfl, hb⟩; have HB3 : Hid (Below ((W.alloc (.cells (l.cells S1 S2) 32)).alloc (.cells (m.cells R1 R2) 32)).heap.size ((W.alloc (.cells (l.cells S1 S2) 32)).alloc (.cells (m.cells R1 R2) 32)) w3) := acc HB2.out hb; clear hb))
            | (go_at_call 17; ((with_reducible refine (PL.out _ HB3.out).mono ?_); rintro e w4 ⟨rfl, hb⟩; have HB4 : Hid (Below ((W.alloc (.cells (l.cells S1 S2) 32)).alloc (.cells (m.cells R1 R2) 32)).heap.size ((W.alloc (.cells (l.cells S1 S2) 32)).alloc (.cells (m.cells R1 R2) 32)) w4) := acc HB3.out hb; clear hb))
            | (go_at_call 17; ((with_reducible refine (PM.out _ HB4.out).mono ?_); rintro e w5 ⟨rfl, hb⟩; have HB5 : Hid (Below ((W.alloc (.cells (l.cells S1 S2) 32)).alloc (.cells (m.cells R1 R2) 32)).heap.size ((W.alloc (.cells (l.cells S1 S2) 32)).alloc (.cells (m.cells R1 R2) 32)) w5) := acc HB4.out hb; clear hb))
            | (go_at_call 19; ((with_reducible refine (CS.out _ HB5.out).mono ?_); rintro e w6 ⟨rfl, hb⟩; have HB6 : Hid (Below ((W.alloc (.cells (l.cells S1 S2) 32)).alloc (.cells (m.cells R1 R2) 32)).heap.size ((W.alloc (.cells (l.cells S1 S2) 32)).alloc (.cells (m.cells R1 R2) 32)) w6) := acc HB5.out hb; clear hb)))
          go_ret
          exact ⟨rfl, BW.out.trans (HB6.out.mono (by simp; omega))⟩
end Go.Proofs.Ytbnmddopgbhapaa
