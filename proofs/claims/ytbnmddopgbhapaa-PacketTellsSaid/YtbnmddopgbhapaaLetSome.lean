/-
  Package letter's fields, walked: which of them have anything but the zero value; and the letter in a packet.
-/
import Derived.Test.YtbnmddopgbhapaaLetPackForm
import Derived.Test.YtbnmddopgbhapaaLetHold
namespace Go.Proofs.Ytbnmddopgbhapaa
open Go.RowKit

/-- the field f, asked in W or a world behind it whether anything is there, tells q -/
def SomesTo (W : World) (f : Value) (q : Bool) : Prop :=
  ∃ (T : TypeId) (x : Value) (i : FuncId), f = .iface T x ∧ (∀ w, (nilAhead 249 T x "rosary/letter.some").run Try.prog w = .ok (some false) w) ∧ (∀ w, (method 249 T x "rosary/letter.some").run Try.prog w = .ok (i, x) w) ∧ (∀ a w, (callFunc i a).run Try.prog w = .ok (.enter i a) w) ∧
    ∀ w, Below W.heap.size W w → Calls Try.prog i #[x] w fun e w' => e = .returned (.bool q) ∧ Below w.heap.size w w'
set_option maxRecDepth 20000 in
set_option maxHeartbeats 1000000 in
theorem numsome_any (p : Addr) (lo hi v : Int) (W : World) (hc : At W p (.int .i64 v)) :
    Calls Try.prog 103 #[.agg #[.pointer (some p), .int .i64 lo, .int .i64 hi]] W fun e w' => e = .returned (.bool (v != 0)) ∧ Below W.heap.size W w' := by
  have h1 := hc.alloc (.cells #[.pointer (some p), .int .i64 lo, .int .i64 hi] 117)
  have h2 := h1.2
  clear h1
  go_enter Try.func103, Try.ntmps103
  go_wp2
  go_ret
  exact ⟨by first | rfl | simp, (Below.refl _ _).alloc (Nat.le_refl _) _⟩
theorem somes_num (p : Addr) (lo hi v : Int) (W : World) (hc : At W p (.int .i64 v)) : SomesTo W (.iface 117 (.agg #[.pointer (some p), .int .i64 lo, .int .i64 hi])) (v != 0) :=
  ⟨117, _, 103, rfl, fun _ => by kernel_rfl, fun _ => by kernel_rfl, fun _ _ => by kernel_rfl, fun w hw => numsome_any p lo hi v w (hc.below hw)⟩
set_option maxRecDepth 20000 in
set_option maxHeartbeats 1000000 in
theorem errsome_any (p : Addr) (lo hi v : Int) (W : World) (hc : At W p (.int .i64 v)) :
    Calls Try.prog 108 #[.agg #[.pointer (some p), .int .i64 lo, .int .i64 hi]] W fun e w' => e = .returned (.bool (v != 0)) ∧ Below W.heap.size W w' := by
  have h1 := hc.alloc (.cells #[.pointer (some p), .int .i64 lo, .int .i64 hi] 124)
  have h2 := h1.2
  clear h1
  go_enter Try.func108, Try.ntmps108
  go_wp2
  go_ret
  exact ⟨by first | rfl | simp, (Below.refl _ _).alloc (Nat.le_refl _) _⟩
theorem somes_err (p : Addr) (lo hi v : Int) (W : World) (hc : At W p (.int .i64 v)) : SomesTo W (.iface 124 (.agg #[.pointer (some p), .int .i64 lo, .int .i64 hi])) (v != 0) :=
  ⟨124, _, 108, rfl, fun _ => by kernel_rfl, fun _ => by kernel_rfl, fun _ _ => by kernel_rfl, fun w hw => errsome_any p lo hi v w (hc.below hw)⟩
set_option maxRecDepth 20000 in
set_option maxHeartbeats 1000000 in
theorem widesome_any (p : Addr) (x : Nat) (W : World) (hc : At W p (.int .u64 (x : Nat))) :
    Calls Try.prog 81 #[.agg #[.pointer (some p)]] W fun e w' => e = .returned (.bool ((x : Int) != 0)) ∧ Below W.heap.size W w' := by
  have h1 := hc.alloc (.cells #[.pointer (some p)] 103)
  have h2 := h1.2
  clear h1
  go_enter Try.func81, Try.ntmps81
  go_wp2
  go_ret
  exact ⟨by first | rfl | simp, (Below.refl _ _).alloc (Nat.le_refl _) _⟩
theorem somes_wide (p : Addr) (x : Nat) (W : World) (hc : At W p (.int .u64 (x : Nat))) : SomesTo W (.iface 103 (.agg #[.pointer (some p)])) ((x : Int) != 0) :=
  ⟨103, _, 81, rfl, fun _ => by kernel_rfl, fun _ => by kernel_rfl, fun _ _ => by kernel_rfl, fun w hw => widesome_any p x w (hc.below hw)⟩
set_option maxRecDepth 20000 in
set_option maxHeartbeats 1000000 in
theorem textsome_any (p : Addr) (s : ByteArray) (W : World) (hc : At W p (.string s)) :
    Calls Try.prog 93 #[.agg #[.pointer (some p)]] W fun e w' => e = .returned (.bool (!s.toList.isEmpty)) ∧ Below W.heap.size W w' := by
  have h1 := hc.alloc (.cells #[.pointer (some p)] 109)
  have h2 := h1.2
  clear h1
  go_enter Try.func93, Try.ntmps93
  go_wp2
  go_ret
  exact ⟨by first | rfl | simp, (Below.refl _ _).alloc (Nat.le_refl _) _⟩
theorem somes_text (p : Addr) (s : ByteArray) (W : World) (hc : At W p (.string s)) : SomesTo W (.iface 109 (.agg #[.pointer (some p)])) (!s.toList.isEmpty) :=
  ⟨109, _, 93, rfl, fun _ => by kernel_rfl, fun _ => by kernel_rfl, fun _ _ => by kernel_rfl, fun w hw => textsome_any p s w (hc.below hw)⟩
set_option maxRecDepth 20000 in
set_option maxHeartbeats 1000000 in
theorem flagsome_any (p : Addr) (b : Bool) (W : World) (hc : At W p (.bool b)) :
    Calls Try.prog 98 #[.agg #[.pointer (some p)]] W fun e w' => e = .returned (.bool b) ∧ Below W.heap.size W w' := by
  have h1 := hc.alloc (.cells #[.pointer (some p)] 114)
  have h2 := h1.2
  clear h1
  go_enter Try.func98, Try.ntmps98
  go_wp2
  go_ret
  exact ⟨by first | rfl | simp, (Below.refl _ _).alloc (Nat.le_refl _) _⟩
theorem somes_flag (p : Addr) (b : Bool) (W : World) (hc : At W p (.bool b)) : SomesTo W (.iface 114 (.agg #[.pointer (some p)])) b :=
  ⟨114, _, 98, rfl, fun _ => by kernel_rfl, fun _ => by kernel_rfl, fun _ _ => by kernel_rfl, fun w hw => flagsome_any p b w (hc.below hw)⟩
set_option maxRecDepth 20000 in
set_option maxHeartbeats 1000000 in
theorem itemssome_any (p : Addr) (A : Option Addr) (n c : Nat) (W : World) (hc : At W p (.slice A n c)) :
    Calls Try.prog 89 #[.agg #[.pointer (some p)]] W fun e w' => e = .returned (.bool (decide (0 < (n : Int)))) ∧ Below W.heap.size W w' := by
  have h1 := hc.alloc (.cells #[.pointer (some p)] 106)
  have h2 := h1.2
  clear h1
  go_enter Try.func89, Try.ntmps89
  go_wp2
  go_ret
  exact ⟨by first | rfl | simp, (Below.refl _ _).alloc (Nat.le_refl _) _⟩
theorem somes_items (p : Addr) (A : Option Addr) (n c : Nat) (W : World) (hc : At W p (.slice A n c)) : SomesTo W (.iface 106 (.agg #[.pointer (some p)])) (decide (0 < (n : Int))) :=
  ⟨106, _, 89, rfl, fun _ => by kernel_rfl, fun _ => by kernel_rfl, fun _ _ => by kernel_rfl, fun w hw => itemssome_any p A n c w (hc.below hw)⟩
/-- which fields of a letter have anything, in the order of its bytes -/
def someQs (l : LV) : List Bool := [l.k != 0, l.f != 0, l.t != 0, l.i != 0, l.ep != 0, l.n != 0, l.nd != 0, ((l.af : Nat) : Int) != 0, ((l.au : Nat) : Int) != 0, decide (0 < (l.li.length : Int)), l.op != 0, !l.key.toList.isEmpty, !l.val.toList.isEmpty, !l.kto.toList.isEmpty, l.most != 0, l.er != 0, !l.tv.toList.isEmpty, decide (0 < (l.ti.length : Int)), l.more, !l.nx.toList.isEmpty, l.tn != 0]
/-- has a letter anything? -/
def someB (l : LV) : Bool := (someQs l).any id
def SomesAll (W : World) : List Value → List Bool → Prop
  | [], [] => True
  | f :: fs, o :: os => SomesTo W f o ∧ SomesAll W fs os
  | _, _ => False
theorem SomesAll.at_ {W : World} : ∀ {fs : List Value} {os : List Bool}, SomesAll W fs os → ∀ k (h : k < fs.length) (h2 : k < os.length), SomesTo W (fs[k]) (os[k])
  | [], [], _, k, h, _ => absurd h (Nat.not_lt_zero _)
  | [], _ :: _, h, _, _, _ => h.elim
  | _ :: _, [], h, _, _, _ => h.elim
  | _ :: _, _ :: _, h, 0, _, _ => h.1
  | _ :: fs, _ :: os, h, k + 1, h1, h2 => SomesAll.at_ h.2 k (by simpa using h1) (by simpa using h2)
set_option maxRecDepth 20000 in
set_option maxHeartbeats 2000000 in
theorem inner_somes (q : PV) (S1 S2 : Value) (B : Nat) (w : World) (hb : w.heap[B]? = some (.cells (q.cells S1 S2) 34)) (h1 : SlAt w S1 q.lt.ti) (h2 : SlAt w S2 q.lt.li) : SomesAll w (innerFs B) (someQs q.lt) := by
  obtain ⟨A1, k1, rfl, -⟩ := h1
  obtain ⟨A2, k2, rfl, -⟩ := h2
  refine ⟨?_, ?_, ?_, ?_, ?_, ?_, ?_, ?_, ?_, ?_, ?_, ?_, ?_, ?_, ?_, ?_, ?_, ?_, ?_, ?_, ?_, trivial⟩
  · exact somes_num ⟨B, 4, none⟩ _ _ q.lt.k w (At.ofHeap hb rfl)
  · exact somes_num ⟨B, 5, none⟩ _ _ q.lt.f w (At.ofHeap hb rfl)
  · exact somes_num ⟨B, 6, none⟩ _ _ q.lt.t w (At.ofHeap hb rfl)
  · exact somes_num ⟨B, 7, none⟩ _ _ q.lt.i w (At.ofHeap hb rfl)
  · exact somes_num ⟨B, 21, none⟩ _ _ q.lt.ep w (At.ofHeap hb rfl)
  · exact somes_num ⟨B, 23, none⟩ _ _ q.lt.n w (At.ofHeap hb rfl)
  · exact somes_num ⟨B, 24, none⟩ _ _ q.lt.nd w (At.ofHeap hb rfl)
  · exact somes_wide ⟨B, 19, none⟩ q.lt.af w (At.ofHeap hb rfl)
  · exact somes_wide ⟨B, 20, none⟩ q.lt.au w (At.ofHeap hb rfl)
  · exact somes_items ⟨B, 22, none⟩ A2 q.lt.li.length k2 w (At.ofHeap hb rfl)
  · exact somes_num ⟨B, 8, none⟩ _ _ q.lt.op w (At.ofHeap hb rfl)
  · exact somes_text ⟨B, 9, none⟩ q.lt.key w (At.ofHeap hb rfl)
  · exact somes_text ⟨B, 10, none⟩ q.lt.val w (At.ofHeap hb rfl)
  · exact somes_text ⟨B, 11, none⟩ q.lt.kto w (At.ofHeap hb rfl)
  · exact somes_num ⟨B, 12, none⟩ _ _ q.lt.most w (At.ofHeap hb rfl)
  · exact somes_err ⟨B, 13, none⟩ _ _ q.lt.er w (At.ofHeap hb rfl)
  · exact somes_text ⟨B, 14, none⟩ q.lt.tv w (At.ofHeap hb rfl)
  · exact somes_items ⟨B, 15, none⟩ A1 q.lt.ti.length k1 w (At.ofHeap hb rfl)
  · exact somes_flag ⟨B, 16, none⟩ q.lt.more w (At.ofHeap hb rfl)
  · exact somes_text ⟨B, 17, none⟩ q.lt.nx w (At.ofHeap hb rfl)
  · exact somes_num ⟨B, 18, none⟩ _ _ q.lt.tn w (At.ofHeap hb rfl)
theorem any_upto {qs : List Bool} (h : ∀ q (hq : q < qs.length), qs[q] = false) : qs.any id = false := by
  rw [List.any_eq_false]
  intro x hx
  obtain ⟨j, hj, rfl⟩ := List.getElem_of_mem hx
  simp [h j hj]
theorem any_at {qs : List Bool} {j : Nat} (h : j < qs.length) (hq : qs[j] = true) : qs.any id = true := List.any_eq_true.2 ⟨_, List.getElem_mem h, hq⟩
set_option maxRecDepth 20000 in
set_option maxHeartbeats 2000000 in
theorem insome_any (q : PV) (S1 S2 : Value) (B : Nat) (W : World) (hb : W.heap[B]? = some (.cells (q.cells S1 S2) 34)) (h1 : SlAt W S1 q.lt.ti) (h2 : SlAt W S2 q.lt.li) :
    Calls Try.prog 78 #[.agg #[.pointer (some ⟨B, 0, none⟩)]] W fun e w' => e = .returned (.bool (someB q.lt)) ∧ Below W.heap.size W w' := by
  have CO := Lib.hid of_inner21
  have HS : Hid (∀ w, Below W.heap.size W w → SomesAll w (innerFs B) (someQs q.lt)) := fun w hw => inner_somes q S1 S2 B w ((hw.block _ (lt_of_heap hb)).trans hb) (h1.below hw) (h2.below hw)
  have HB0 : Hid (Below W.heap.size W (W.alloc (.cells #[.pointer (some ⟨B, 0, none⟩)] 89))) := (Below.refl _ _).alloc (Nat.le_refl _) _
  have HZ : Hid ((W.alloc (.cells #[.pointer (some ⟨B, 0, none⟩)] 89)).heap.size = W.heap.size + 1) := by show _ = _; simp
  have hnil := lt_of_heap hb
  clear hb h1 h2
  unfold someB
  generalize hqs : someQs q.lt = qs at *
  have HL : Hid (qs.length = 21) := by show _ = _; rw [← hqs]; rfl
  have HI : Hid ((innerFs B).length = 21) := rfl
  clear hqs
  go_enter Try.func78, Try.ntmps78
  go_wp2_with (first
    | (go_at_call 36; ((with_reducible refine (CO.out _ _).mono ?_); rintro e w1 ⟨c1, rfl, hf1, hb1, hs1⟩; have HF : Hid (FieldsAt w1 (some ⟨W.heap.size + 1, 0, none⟩) (innerFs B)) := HZ.out ▸ hf1; have HB1 : Hid (Below W.heap.size W w1) := acc HB0.out hb1; clear hf1 hb1 hs1)))
  go_loopg [11] 22 (fun z s11 wx => ∃ (j : Nat), j + z = 22 ∧ j ≤ 21 ∧ s11 = .int .i64 (j : Nat) ∧ Hid (∀ k (h : k < qs.length), k < j → qs[k] = false) ∧ Hid (Below w1.heap.size w1 wx))
  case atStart => exact ⟨0, by omega, by omega, rfl, fun k _ hk => absurd hk (Nat.not_lt_zero _), Below.refl _ _⟩
  case round =>
    obtain ⟨j, hjz, hj, rfl, HQ, HW⟩ := hrel
    by_cases hlt : j < 21
    · have bj : decide ((j : Int) < 21) = true := by simp; omega
      have hji : j < (innerFs B).length := by rw [HI.out]; exact hlt
      have hjq : j < qs.length := by rw [HL.out]; exact hlt
      obtain ⟨gb, go, hAt⟩ := HF.out.below HW.out
      obtain ⟨eA, y0, hc⟩ := hAt j hji
      have ep := Option.some.inj eA
      have ep1 := congrArg Addr.block ep
      have ep2 := congrArg Addr.off ep
      simp only at ep1 ep2
      subst ep1 ep2
      obtain ⟨T, x, i, hf, hm1, hm2, hm3, hcall⟩ := (HS.out wr (acc HB1.out HW.out)).at_ j hji hjq
      rw [hf, Nat.zero_add] at hc
      have hcw := hcall wr (Below.refl _ _)
      have HQJ : ∀ t, qs[j] = t → Hid (qs[j] = t) := fun t h => h
      clear hcall hAt eA ep hf
      cases hq : qs[j] with
      | true =>
        have HQT := HQJ true hq
        rw [hq] at hcw
        have C := Lib.hid hcw
        clear hcw hq HQJ
        go_wp2_with (first
          | (with_reducible refine (C.out).mono ?_; rintro e w2 ⟨rfl, hb2⟩))
        go_ret
        have ha : qs.any id = true := any_at hjq HQT.out
        exact ⟨by rw [ha]; rfl, acc (acc HB1.out HW.out) hb2⟩
      | false =>
        have HQT := HQJ false hq
        rw [hq] at hcw
        have C := Lib.hid hcw
        clear hcw hq HQJ
        go_wp2_with (first
          | (with_reducible refine (C.out).mono ?_; rintro e w2 ⟨rfl, hb2⟩))
        go_roundg (gk - 1)
        case measure => omega
        case rel =>
          refine ⟨j + 1, by omega, by omega, by go_num, fun k h hk => ?_, acc HW.out hb2⟩
          rcases Nat.lt_succ_iff_lt_or_eq.1 hk with hk | rfl
          · exact HQ.out k h hk
          · exact HQT.out
    · obtain rfl : j = 21 := by omega
      have b2 : decide (((21 : Nat) : Int) < 21) = false := by decide
      go_wp2
      go_ret
      have ha : qs.any id = false := any_upto (fun k h => HQ.out k h (by have := HL.out; omega))
      exact ⟨by rw [ha]; rfl, acc HB1.out HW.out⟩
end Go.Proofs.Ytbnmddopgbhapaa
