/-
  Packets as bytes: the plain function, and PutPacket, walked.
-/
import Derived.Test.YtbnmddopgbhapaaLetSome
import Derived.Deep.MidRow
namespace Go.Proofs.Ytbnmddopgbhapaa
open Go.RowKit

theorem letterOs_small (l : LV) : ∀ o ∈ letterOs l, (o.getD ByteArray.empty).size ≤ 20736 := by
  intro o ho
  have ho' : o ∈ [numP 1 16 l.k, numP 0 255 l.f, numP 0 255 l.t, numP 0 65535 l.i, numP 0 65535 l.ep, numP 0 65535 l.n, numP 0 255 l.nd, some (txt (wideN 8 ((l.af : Nat) : Int).toNat)), some (txt (wideN 8 ((l.au : Nat) : Int).toNat)), itemsP l.li, numP 0 255 l.op, textP l.key, textP l.val, textP l.kto, numP 0 65535 l.most, numP 0 255 l.er, textP l.tv, itemsP l.ti, some (numT (if l.more then 1 else 0)), textP l.nx, numP 0 255 l.tn] := ho
  simp only [List.mem_cons, List.not_mem_nil, or_false] at ho'
  rcases ho' with rfl | rfl | rfl | rfl | rfl | rfl | rfl | rfl | rfl | rfl | rfl | rfl | rfl | rfl | rfl | rfl | rfl | rfl | rfl | rfl | rfl
  · have := numP_le 1 16 l.k; omega
  · have := numP_le 0 255 l.f; omega
  · have := numP_le 0 255 l.t; omega
  · have := numP_le 0 65535 l.i; omega
  · have := numP_le 0 65535 l.ep; omega
  · have := numP_le 0 65535 l.n; omega
  · have := numP_le 0 255 l.nd; omega
  · have := wideP_le ((l.af : Nat) : Int).toNat; omega
  · have := wideP_le ((l.au : Nat) : Int).toNat; omega
  · have := itemsP_le l.li; omega
  · have := numP_le 0 255 l.op; omega
  · have := textP_le l.key; omega
  · have := textP_le l.val; omega
  · have := textP_le l.kto; omega
  · have := numP_le 0 65535 l.most; omega
  · have := numP_le 0 255 l.er; omega
  · have := textP_le l.tv; omega
  · have := itemsP_le l.ti; omega
  · have := flagP_le (if l.more then 1 else 0); omega
  · have := textP_le l.nx; omega
  · have := numP_le 0 255 l.tn; omega
theorem putL_small (l : LV) : ((putL l).getD ByteArray.empty).size ≤ 435456 := by
  have := catO_le 20736 (letterOs l) (letterOs_small l)
  have e2 : (letterOs l).length = 21 := rfl
  rw [e2] at this
  exact this
/-- the letter in a packet, as bytes -/
def inP (q : PV) : Option ByteArray := if q.sq = 0 then (if someB q.lt then none else some ByteArray.empty) else putL q.lt
def packetOs (q : PV) : List (Option ByteArray) := [numP 0 255 q.pf, numP 0 255 q.pt, numP 0 65535 q.sq, numP 0 65535 q.ak, inP q]
/-- a packet as bytes -/
def putP (q : PV) : Option ByteArray := catO (packetOs q)
theorem inP_le (q : PV) : ((inP q).getD ByteArray.empty).size ≤ 435456 := by
  unfold inP
  by_cases h : q.sq = 0
  · rw [if_pos h]
    cases someB q.lt <;> exact Nat.zero_le _
  · rw [if_neg h]; exact putL_small _
theorem packetOs_le (q : PV) : ∀ o ∈ packetOs q, (o.getD ByteArray.empty).size ≤ 1000000 := by
  intro o ho
  simp only [packetOs, List.mem_cons, List.not_mem_nil, or_false] at ho
  rcases ho with rfl | rfl | rfl | rfl | rfl
  · have := numP_le 0 255 q.pf; omega
  · have := numP_le 0 255 q.pt; omega
  · have := numP_le 0 65535 q.sq; omega
  · have := numP_le 0 65535 q.ak; omega
  · have := inP_le q; omega
abbrev LV.cellsL (l : LV) (S1 S2 : Value) : List Value := [.int .i64 l.k, .int .i64 l.f, .int .i64 l.t, .int .i64 l.i, .int .i64 l.op, .string l.key, .string l.val, .string l.kto, .int .i64 l.most, .int .i64 l.er, .string l.tv, S1, .bool l.more, .string l.nx, .int .i64 l.tn, .int .u64 (l.af : Nat), .int .u64 (l.au : Nat), .int .i64 l.ep, S2, .int .i64 l.n, .int .i64 l.nd]
set_option maxRecDepth 20000 in
theorem inner_range {w : World} {B : Nat} {q : PV} {S1 S2 : Value} (hb : w.heap[B]? = some (.cells (q.cells S1 S2) 34)) : w.rangeAt B 4 (q.lt.cellsL S1 S2) := by
  intro j v hj
  rw [Lib.cell_of_heap hb, Nat.add_comm 4 j, ← Array.getElem?_toList]
  exact hj
set_option maxRecDepth 20000 in
set_option maxHeartbeats 4000000 in
theorem input_any (q : PV) (S1 S2 : Value) (B : Nat) (W : World) (hF : q.Fine) (hb : W.heap[B]? = some (.cells (q.cells S1 S2) 34)) (h1 : SlAt W S1 q.lt.ti) (h2 : SlAt W S2 q.lt.li) :
    Calls Try.prog 77 #[.agg #[.pointer (some ⟨B, 0, none⟩)]] W fun e w' => e = .returned (.tuple #[.string ((inP q).getD ByteArray.empty), .bool (inP q).isSome]) ∧ Below W.heap.size W w' := by
  have BW : Below W.heap.size W (W.alloc (.cells #[.pointer (some ⟨B, 0, none⟩)] 89)) := (Below.refl _ _).alloc (Nat.le_refl _) _
  have HBW := Lib.hid BW
  have hb1 := (BW.block _ (lt_of_heap hb)).trans hb
  have hsq : (W.alloc (.cells #[.pointer (some ⟨B, 0, none⟩)] 89)).cell? ⟨B, 2, none⟩ = some (.int .i64 q.sq) := cell_at hb1 rfl
  have HRA := Lib.hid (inner_range hb1)
  have CS := Lib.hid (insome_any q S1 S2 B _ hb1 (h1.below BW) (h2.below BW))
  have CP := Lib.hid (lput_any q.lt S1 S2 _ hF.ltF (h1.below BW) (h2.below BW))
  have hszl : (Try.prog.info? 32).map (·.size) = some (q.lt.cellsL S1 S2).length := by kernel_rfl
  have hbl := lt_of_heap hb
  unfold inP
  generalize someB q.lt = sb at *
  clear hF hb h1 h2 BW hb1
  by_cases h0 : q.sq = 0
  · have b0 : (q.sq == 0) = true := by rw [beq_iff_eq]; exact h0
    rw [if_pos h0]
    clear CP HRA h0
    cases sb with
    | true =>
      rw [if_pos rfl]
      go_enter Try.func77, Try.ntmps77
      go_wp2_with (first
        | (go_at_call 78; ((with_reducible refine (CS.out).mono ?_); rintro e w1 ⟨rfl, hb1⟩)))
      go_ret2
      exact ⟨rfl, acc HBW.out hb1⟩
    | false =>
      rw [if_neg (by decide)]
      go_enter Try.func77, Try.ntmps77
      go_wp2_with (first
        | (go_at_call 78; ((with_reducible refine (CS.out).mono ?_); rintro e w1 ⟨rfl, hb1⟩)))
      go_ret2
      exact ⟨rfl, acc HBW.out hb1⟩
  · have b0 : (q.sq == 0) = false := by rw [beq_eq_false_iff_ne]; exact h0
    rw [if_neg h0]
    clear CS h0
    go_enter Try.func77, Try.ntmps77
    go_wp2_with (first
      | (refine wpList_load_mid rfl 32 (.tmp 16) rfl B 4 rfl (q.lt.cellsL S1 S2) _ HRA.out Try.underlying32 rfl hszl ?_)
      | (go_at_call 17; ((with_reducible refine (CP.out).mono ?_); unfold PutPost; rintro e w1 ⟨rfl, hb1⟩)))
    go_ret2
    exact ⟨rfl, acc HBW.out hb1⟩
theorem puts_inside (q : PV) (S1 S2 : Value) (B : Nat) (W : World) (hF : q.Fine) (hb : W.heap[B]? = some (.cells (q.cells S1 S2) 34)) (h1 : SlAt W S1 q.lt.ti) (h2 : SlAt W S2 q.lt.li) : PutsTo W (insideF B) (inP q) :=
  ⟨89, _, 77, rfl, fun _ => by kernel_rfl, fun _ => by kernel_rfl, fun _ _ => by kernel_rfl, fun w hw => input_any q S1 S2 B w hF ((hw.block _ (lt_of_heap hb)).trans hb) (h1.below hw) (h2.below hw)⟩
theorem packet_puts (q : PV) (S1 S2 : Value) (B : Nat) (w : World) (hb : w.heap[B]? = some (.cells (q.cells S1 S2) 34)) (hF : q.Fine) (h1 : SlAt w S1 q.lt.ti) (h2 : SlAt w S2 q.lt.li) : PutsAll w (packetFs B) (packetOs q) := by
  refine ⟨?_, ?_, ?_, ?_, ?_, trivial⟩
  · exact puts_num ⟨B, 0, none⟩ 0 255 q.pf w (At.ofHeap hb rfl) (by decide) (by decide) hF.pfB.1 hF.pfB.2
  · exact puts_num ⟨B, 1, none⟩ 0 255 q.pt w (At.ofHeap hb rfl) (by decide) (by decide) hF.ptB.1 hF.ptB.2
  · exact puts_num ⟨B, 2, none⟩ 0 65535 q.sq w (At.ofHeap hb rfl) (by decide) (by decide) hF.sqB.1 hF.sqB.2
  · exact puts_num ⟨B, 3, none⟩ 0 65535 q.ak w (At.ofHeap hb rfl) (by decide) (by decide) hF.akB.1 hF.akB.2
  · exact puts_inside q S1 S2 B w hF hb h1 h2
theorem of_packet5 (b : Nat) (W : World) : Calls Try.prog 26 #[.pointer (some ⟨b, 0, none⟩)] W fun e w' => ∃ c, e = .returned (.slice (some ⟨W.heap.size, 0, none⟩) 5 c) ∧ FieldsAt w' (some ⟨W.heap.size, 0, none⟩) (packetFs b) ∧ Below W.heap.size W w' ∧ W.heap.size < w'.heap.size := of_packet b W
def PutPPost (W : World) (q : PV) (e : Ending) (w' : World) : Prop := e = .returned (.tuple #[.string ((putP q).getD ByteArray.empty), .bool (putP q).isSome]) ∧ Below W.heap.size W w'
set_option maxRecDepth 20000 in
set_option maxHeartbeats 2000000 in
theorem pput_any (q : PV) (S1 S2 : Value) (W : World) (hF : q.Fine) (h1 : SlAt W S1 q.lt.ti) (h2 : SlAt W S2 q.lt.li) :
    Calls Try.prog 12 #[.agg (q.cells S1 S2)] W (PutPPost W q) := by
  have BA : Below W.heap.size W (W.alloc (.cells (q.cells S1 S2) 34)) := (Below.refl _ _).alloc (Nat.le_refl _) _
  have hb : (W.alloc (.cells (q.cells S1 S2) 34)).heap[W.heap.size]? = some (.cells (q.cells S1 S2) 34) := heap_alloc_new W _
  have CO := Lib.hid of_packet5
  have CW : Hid (∀ w A c, Below (W.heap.size + 1) (W.alloc (.cells (q.cells S1 S2) 34)) w → FieldsAt w A (packetFs W.heap.size) → Calls Try.prog 25 #[.slice A 5 c] w fun e w' => e = .returned (.tuple #[.string ((putP q).getD ByteArray.empty), .bool (putP q).isSome]) ∧ Below w.heap.size w w') := fun w A c hbw hf => by
    have hp := packet_puts q S1 S2 W.heap.size w ((hbw.block W.heap.size (by omega)).trans hb) hF ((h1.below BA).below (hbw.mono (by simp))) ((h2.below BA).below (hbw.mono (by simp)))
    exact write_any A c (packetFs W.heap.size) (packetOs q) w hf (show 5 ≤ 1000 by decide) hp.len hp.at_ (packetOs_le q)
  have HBA := Lib.hid BA
  clear hb hF h1 h2 BA
  go_enter Try.func12, Try.ntmps12
  go_wp2_with (first
    | (go_at_call 26; ((with_reducible refine (CO.out _ _).mono ?_); rintro e w1 ⟨c1, rfl, hf1, hb1, hs1⟩; have CW1 := Lib.hid (CW.out w1 (some ⟨W.heap.size + 1, 0, none⟩) c1 (by simpa using hb1) ((show (W.alloc (.cells (q.cells S1 S2) 34)).heap.size = W.heap.size + 1 by simp) ▸ hf1)); have HB1 := Lib.hid hb1; clear hf1 hb1))
    | (go_at_call 25; ((with_reducible refine (CW1.out).mono ?_); rintro e w2 ⟨rfl, hb2⟩)))
  go_ret2
  exact ⟨rfl, acc (acc HBA.out HB1.out) hb2⟩
end Go.Proofs.Ytbnmddopgbhapaa
