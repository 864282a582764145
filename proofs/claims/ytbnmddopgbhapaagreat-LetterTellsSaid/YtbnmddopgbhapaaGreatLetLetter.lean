/-
  Package letter's Put, Right and Get, walked: a letter's bytes, or that it may not be; the letter of bytes, or that they are none.
-/
import Derived.Test.YtbnmddopgbhapaaGreatLetForms
import Derived.Test.YtbnmddopgbhapaaGreatLetItemsGet
import Derived.Laws.ResultCell
import Derived.Laws.Tables
import Derived.Laws.Rows
namespace Go.Proofs.YtbnmddopgbhapaaGreat
open Go.RowKit

theorem catO_le (m : Nat) : ∀ (os : List (Option ByteArray)), (∀ o ∈ os, (o.getD ByteArray.empty).size ≤ m) → ((catO os).getD ByteArray.empty).size ≤ os.length * m
  | [], _ => by show (0 : Nat) ≤ _; omega
  | none :: os, _ => by show (0 : Nat) ≤ _; omega
  | some a :: os, h => by
    have h1 := h (some a) List.mem_cons_self
    have h2 := catO_le m os (fun o ho => h o (List.mem_cons_of_mem _ ho))
    rw [catO]
    cases hc : catO os with
    | none => show (0 : Nat) ≤ _; omega
    | some c =>
      rw [hc] at h2
      show (a ++ c).size ≤ _
      have h1' : a.size ≤ m := h1
      have h2' : c.size ≤ os.length * m := h2
      rw [size_append, List.length_cons, Nat.add_mul]; omega
theorem itemsP_le (l : List Item) : ((itemsP l).getD ByteArray.empty).size ≤ 20736 := by
  have h := catO_le 256 (numP 0 40 l.length :: itemPs (l.take 40)) (fun o ho => by
    rcases List.mem_cons.1 ho with rfl | ho
    · have := numP_le 0 40 (l.length : Int); omega
    · exact itemPs_le _ o ho)
  rw [List.length_cons, itemPs_length, List.length_take] at h
  unfold itemsP
  omega
theorem wideP_le (x : Nat) : ((some (txt (wideN 8 x)) : Option ByteArray).getD ByteArray.empty).size ≤ 8 := by show (txt _).size ≤ 8; rw [txt_size, wideN_length]; exact Nat.le_refl _
theorem flagP_le (v : Int) : ((some (numT v) : Option ByteArray).getD ByteArray.empty).size ≤ 2 := by
  show (numT v).size ≤ 2
  unfold numT
  by_cases h : okNum v = true
  · rw [if_pos h, txt_size, wideN_length]; exact Nat.le_refl _
  · rw [if_neg h]; show (0 : Nat) ≤ 2; omega
theorem letterOs_le (l : LV) : ∀ o ∈ letterOs l, (o.getD ByteArray.empty).size ≤ 1000000 := by
  intro o ho
  have ho' : o ∈ [numP 1 16 l.k, numP 0 255 l.f, numP 0 255 l.t, numP 0 65535 l.i, numP 0 65535 l.ep, numP 0 65535 l.n, numP 0 255 l.nd, some (txt (wideN 8 ((l.af : Nat) : Int).toNat)), some (txt (wideN 8 ((l.au : Nat) : Int).toNat)), itemsP l.li, numP 0 255 l.op, textP l.key, textP l.val, textP l.kto, numP 0 65535 l.most, numP 0 255 l.er, textP l.tv, itemsP l.ti, some (numT (if l.more then 1 else 0)), textP l.nx, numP 0 255 l.tn] := ho
  simp only [List.mem_cons, List.not_mem_nil, or_false] at ho'
  rcases ho' with rfl | rfl | rfl | rfl | rfl | rfl | rfl | rfl | rfl | rfl | rfl | rfl | rfl | rfl | rfl | rfl | rfl | rfl | rfl | rfl | rfl
  · have := numP_le 1 16 l.k; omega
  · have := numP_le 0 255 l.f; omega
  · have := numP_le 0 255 l.t; omega
  · have := numP_le 0 65535 l.i; omega
  · have := numP_le 0 65535 l.ep; omega
  · have := numP_le 0 65535 l.n; omega
  · have := numP_le 0 255 l.nd; omega
  · have := wideP_le ((l.af : Nat) : Int).toNat; omega
  · have := wideP_le ((l.au : Nat) : Int).toNat; omega
  · have := itemsP_le l.li; omega
  · have := numP_le 0 255 l.op; omega
  · have := textP_le l.key; omega
  · have := textP_le l.val; omega
  · have := textP_le l.kto; omega
  · have := numP_le 0 65535 l.most; omega
  · have := numP_le 0 255 l.er; omega
  · have := textP_le l.tv; omega
  · have := itemsP_le l.ti; omega
  · have := flagP_le (if l.more then 1 else 0); omega
  · have := textP_le l.nx; omega
  · have := numP_le 0 255 l.tn; omega
set_option maxRecDepth 20000 in
set_option maxHeartbeats 2000000 in
theorem letter_puts (l : LV) (S1 S2 : Value) (B : Nat) (w : World) (hb : w.heap[B]? = some (.cells (l.cells S1 S2) 32)) (hF : l.Fine) (h1 : SlAt w S1 l.ti) (h2 : SlAt w S2 l.li) : PutsAll w (letterFs B) (letterOs l) := by
  refine ⟨?_, ?_, ?_, ?_, ?_, ?_, ?_, ?_, ?_, ?_, ?_, ?_, ?_, ?_, ?_, ?_, ?_, ?_, ?_, ?_, ?_, trivial⟩
  · exact puts_num ⟨B, 0, none⟩ 1 16 l.k w (At.ofHeap hb rfl) (by decide) (by decide) hF.kB.1 hF.kB.2
  · exact puts_num ⟨B, 1, none⟩ 0 255 l.f w (At.ofHeap hb rfl) (by decide) (by decide) hF.fB.1 hF.fB.2
  · exact puts_num ⟨B, 2, none⟩ 0 255 l.t w (At.ofHeap hb rfl) (by decide) (by decide) hF.tB.1 hF.tB.2
  · exact puts_num ⟨B, 3, none⟩ 0 65535 l.i w (At.ofHeap hb rfl) (by decide) (by decide) hF.iB.1 hF.iB.2
  · exact puts_num ⟨B, 17, none⟩ 0 65535 l.ep w (At.ofHeap hb rfl) (by decide) (by decide) hF.epB.1 hF.epB.2
  · exact puts_num ⟨B, 19, none⟩ 0 65535 l.n w (At.ofHeap hb rfl) (by decide) (by decide) hF.nB.1 hF.nB.2
  · exact puts_num ⟨B, 20, none⟩ 0 255 l.nd w (At.ofHeap hb rfl) (by decide) (by decide) hF.ndB.1 hF.ndB.2
  · show PutsTo w _ (some (txt (wideN 8 ((l.af : Nat) : Int).toNat)))
    rw [Int.toNat_natCast]
    exact (puts_wide ⟨B, 15, none⟩ l.af hF.afB w (At.ofHeap hb rfl))
  · show PutsTo w _ (some (txt (wideN 8 ((l.au : Nat) : Int).toNat)))
    rw [Int.toNat_natCast]
    exact (puts_wide ⟨B, 16, none⟩ l.au hF.auB w (At.ofHeap hb rfl))
  · exact puts_items ⟨B, 18, none⟩ l.li S2 w (At.ofHeap hb rfl) h2 hF.liB
  · exact puts_num ⟨B, 4, none⟩ 0 255 l.op w (At.ofHeap hb rfl) (by decide) (by decide) hF.opB.1 hF.opB.2
  · exact puts_text ⟨B, 5, none⟩ l.key hF.keyB w (At.ofHeap hb rfl)
  · exact puts_text ⟨B, 6, none⟩ l.val hF.valB w (At.ofHeap hb rfl)
  · exact puts_text ⟨B, 7, none⟩ l.kto hF.ktoB w (At.ofHeap hb rfl)
  · exact puts_num ⟨B, 8, none⟩ 0 65535 l.most w (At.ofHeap hb rfl) (by decide) (by decide) hF.mostB.1 hF.mostB.2
  · exact puts_err ⟨B, 9, none⟩ 0 255 l.er w (At.ofHeap hb rfl) (by decide) (by decide) hF.erB.1 hF.erB.2
  · exact puts_text ⟨B, 10, none⟩ l.tv hF.tvB w (At.ofHeap hb rfl)
  · exact puts_items ⟨B, 11, none⟩ l.ti S1 w (At.ofHeap hb rfl) h1 hF.tiB
  · exact puts_flag ⟨B, 12, none⟩ l.more w (At.ofHeap hb rfl)
  · exact puts_text ⟨B, 13, none⟩ l.nx hF.nxB w (At.ofHeap hb rfl)
  · exact puts_num ⟨B, 14, none⟩ 0 255 l.tn w (At.ofHeap hb rfl) (by decide) (by decide) hF.tnB.1 hF.tnB.2
theorem of_letter21 (b : Nat) (W : World) : Calls Tryz.prog 20 #[.pointer (some ⟨b, 0, none⟩)] W fun e w' => ∃ c, e = .returned (.slice (some ⟨W.heap.size, 0, none⟩) 21 c) ∧ FieldsAt w' (some ⟨W.heap.size, 0, none⟩) (letterFs b) ∧ Below W.heap.size W w' ∧ W.heap.size < w'.heap.size := of_letter b W
theorem of_inner21 (b : Nat) (W : World) : Calls Tryz.prog 20 #[.pointer (some ⟨b, 4, none⟩)] W fun e w' => ∃ c, e = .returned (.slice (some ⟨W.heap.size, 0, none⟩) 21 c) ∧ FieldsAt w' (some ⟨W.heap.size, 0, none⟩) (innerFs b) ∧ Below W.heap.size W w' ∧ W.heap.size < w'.heap.size := of_inner b W
def PutPost (W : World) (l : LV) (e : Ending) (w' : World) : Prop := e = .returned (.tuple #[.string ((putL l).getD ByteArray.empty), .bool (putL l).isSome]) ∧ Below W.heap.size W w'
set_option maxRecDepth 20000 in
set_option maxHeartbeats 2000000 in
theorem lput_any (l : LV) (S1 S2 : Value) (W : World) (hF : l.Fine) (h1 : SlAt W S1 l.ti) (h2 : SlAt W S2 l.li) :
    Calls Tryz.prog 7 #[.agg (l.cells S1 S2)] W (PutPost W l) := by
  have BA : Below W.heap.size W (W.alloc (.cells (l.cells S1 S2) 32)) := (Below.refl _ _).alloc (Nat.le_refl _) _
  have hb : (W.alloc (.cells (l.cells S1 S2) 32)).heap[W.heap.size]? = some (.cells (l.cells S1 S2) 32) := heap_alloc_new W _
  have CO := Lib.hid of_letter21
  have CW : Hid (∀ w A c, Below (W.heap.size + 1) (W.alloc (.cells (l.cells S1 S2) 32)) w → FieldsAt w A (letterFs W.heap.size) → Calls Tryz.prog 19 #[.slice A 21 c] w fun e w' => e = .returned (.tuple #[.string ((putL l).getD ByteArray.empty), .bool (putL l).isSome]) ∧ Below w.heap.size w w') := fun w A c hbw hf => by
    have hp := letter_puts l S1 S2 W.heap.size w ((hbw.block W.heap.size (by omega)).trans hb) hF ((h1.below BA).below (hbw.mono (by simp))) ((h2.below BA).below (hbw.mono (by simp)))
    exact write_any A c (letterFs W.heap.size) (letterOs l) w hf (show 21 ≤ 1000 by decide) hp.len hp.at_ (letterOs_le l)
  have HBA := Lib.hid BA
  clear hb hF h1 h2 BA
  go_enter Tryz.func7, Tryz.ntmps7
  go_wp2_with (first
    | (go_at_call 20; ((with_reducible refine (CO.out _ _).mono ?_); rintro e w1 ⟨c1, rfl, hf1, hb1, hs1⟩; have CW1 := Lib.hid (CW.out w1 (some ⟨W.heap.size + 1, 0, none⟩) c1 (by simpa using hb1) ((show (W.alloc (.cells (l.cells S1 S2) 32)).heap.size = W.heap.size + 1 by simp) ▸ hf1)); have HB1 := Lib.hid hb1; clear hf1 hb1))
    | (go_at_call 19; ((with_reducible refine (CW1.out).mono ?_); rintro e w2 ⟨rfl, hb2⟩)))
  go_ret2
  exact ⟨rfl, acc (acc HBA.out HB1.out) hb2⟩
theorem load_letter (w : World) (b : Nat) (cs : Array Value) (hs : cs.size = 21) (hb : w.heap[b]? = some (.cells cs 32)) :
    (Instr.loadAt 32 (.pointer (some ⟨b, 0, none⟩))).run Tryz.prog w = .ok (.agg cs) w := by
  have hi : (Tryz.prog.info? 32).map (·.size) = some 21 := by kernel_rfl
  simp only [Instr.loadAt, Instr.sureAddr, Sem.run_bind, Sem.run_pure, Result.andThen_ok, run_loadVar_row w b 32 32 cs (0, 0) _ hb Tryz.underlying32 rfl (hi.trans (congrArg some hs.symm))]
set_option maxRecDepth 20000 in
set_option maxHeartbeats 2000000 in
theorem lright_any (l : LV) (S1 S2 : Value) (W : World) (hF : l.Fine) (h1 : SlAt W S1 l.ti) (h2 : SlAt W S2 l.li) :
    Calls Tryz.prog 9 #[.agg (l.cells S1 S2)] W fun e w' => e = .returned (.bool (putL l).isSome) ∧ Below W.heap.size W w' := by
  have BA : Below W.heap.size W (W.alloc (.cells (l.cells S1 S2) 32)) := (Below.refl _ _).alloc (Nat.le_refl _) _
  have c := lput_any l S1 S2 _ hF (h1.below BA) (h2.below BA)
  have hld : (W.alloc (.cells (l.cells S1 S2) 32)).heap[W.heap.size]? = some (.cells (l.cells S1 S2) 32) := heap_alloc_new W _
  have hsz : (Tryz.prog.info? 32).map (·.size) = some 21 := by kernel_rfl
  have C := Lib.hid c
  have HBA := Lib.hid BA
  clear hF h1 h2 BA c
  go_enter Tryz.func9, Tryz.ntmps9
  go_wp2_with (first
    | (go_at_call 7; ((with_reducible refine (C.out).mono ?_); rintro e w2 ⟨rfl, hb2⟩))
    | (refine wpList_load_row rfl 32 (.tmp 1) rfl W.heap.size rfl 32 (l.cells S1 S2) (0, 0) _ hld Tryz.underlying32 rfl hsz ?_))
  go_ret
  exact ⟨rfl, acc HBA.out hb2⟩
def ZL : LV := LV.of []
theorem getOk_items : GetOk .items := fun b o g cs T s W hb hz hR hne hs =>
  ⟨_, _, 116, rfl, fun _ => by kernel_rfl, fun _ => by kernel_rfl, fun _ _ => by kernel_rfl, itemsget_any b o g cs T s W hb hz hR hne hs⟩
theorem getOk_all (k : FK) : GetOk k := by
  cases k with
  | num e lo hi => cases e with
    | false => exact getOk_num lo hi
    | true => exact getOk_err lo hi
  | wide => exact getOk_wide
  | text => exact getOk_text
  | flag => exact getOk_flag
  | items => exact getOk_items
/-- what readAll leaves: all was read, and nothing is left; or not so -/
def AllPost (W : World) (b : Nat) (T : TypeId) (n0 : Nat) (LF : List (FK × Nat)) (s : ByteArray) (e : Ending) (w' : World) : Prop :=
  ∃ res : Bool, e = .returned (.bool res) ∧ Touch [b] W w' ∧ (res = true → ∃ (cs : Array Value) (xs : List FV) (vs : List Value), w'.heap[b]? = some (.cells cs T) ∧ cs.size = n0 ∧ getF (LF.map (·.1)) s = some (xs, ByteArray.empty) ∧ vs.length = LF.length ∧
    (∀ i (h : i < LF.length) (h2 : i < vs.length) (h3 : i < xs.length), cs[(LF[i]).2]? = some vs[i] ∧ FvAt w' W.heap.size (LF[i]).1 vs[i] xs[i]) ∧ (∀ i i' (h : i < vs.length) (h2 : i' < vs.length), i ≠ i' → ∀ q, (vs[i]).ownBlock = some q → (vs[i']).ownBlock ≠ some q)) ∧
    (res = false → ∀ xs r, getF (LF.map (·.1)) s = some (xs, r) → r.size ≠ 0)
set_option maxRecDepth 20000 in
set_option maxHeartbeats 2000000 in
theorem readAll_any (W : World) (b : Nat) (cs0 : Array Value) (T : TypeId) (LF : List (FK × Nat)) (n : Nat) (s : ByteArray) (A : Option Addr) (c : Nat) (hn0 : LF.length = n) (hb : W.heap[b]? = some (.cells cs0 T)) (hz : ∀ i (h : i < LF.length), cs0[(LF[i]).2]? = some (zeroK (LF[i]).1))
    (hs : s.size ≤ 9223372036854775807) (hoff : ∀ i i' (h : i < LF.length) (h' : i' < LF.length), i ≠ i' → (LF[i]).2 ≠ (LF[i']).2) (hn : LF.length ≤ 1000)
    (hA : FieldsAt W A (LF.map (fieldV b))) (hAb : ∀ q o, A = some ⟨q, o, none⟩ → q ≠ b ∧ q < W.heap.size) :
    Calls Tryz.prog 30 #[.string s, .slice A n c] W (AllPost W b T cs0.size LF s) := by
  have hbl := lt_of_heap hb
  have CF := Lib.hid (from_any s W)
  have CR : Hid (∀ w1, Below W.heap.size W w1 → Rq w1 W.heap.size s true → Calls Tryz.prog 66 #[.pointer (some ⟨W.heap.size, 0, none⟩), .slice A n c] w1 (ReadPost (fun w => ∃ cs xs vs r, RdSt w1 w b W.heap.size T cs0.size LF LF.length s cs xs vs r) (RdNo w1 b W.heap.size T cs0.size LF s))) := fun w1 h1 h2 => by
    have := readF_any w1 b W.heap.size cs0 T LF s A c ((h1.block b hbl).trans hb) hz h2 (by omega) hs hoff (fun x _ => getOk_all x.1) hn (by
      obtain ⟨q, off, hf⟩ := hA
      exact ⟨q, off, fun i hi => by obtain ⟨a1, a2, a3⟩ := hf i hi; exact ⟨a1, Nat.lt_of_lt_of_le a2 h1.size, (h1.cell (p := ⟨q, off + i, none⟩) a2).trans a3⟩⟩) (fun q o hq => by have := hAb q o hq; exact ⟨this.1, by omega⟩)
    rw [List.length_map, hn0] at this
    rw [hn0]
    exact this
  have HBL := Lib.hid hbl
  clear hb hz hs hoff hn hA hAb hbl
  go_enter Tryz.func30, Tryz.ntmps30
  go_wp2_with (first
    | (go_at_call 65; ((with_reducible refine (CF.out).mono ?_); rintro e w1 ⟨rfl, hb1, hr1⟩; have CR1 := Lib.hid (CR.out w1 hb1 hr1); have HB1 := Lib.hid hb1; clear hb1 hr1))
    | (go_at_call 66; ((with_reducible refine (CR1.out).mono ?_); rintro e w2 (⟨rfl, hyes⟩ | ⟨rfl, hno⟩)))
    | (go_at_call 67; fail))
  · obtain ⟨cs, xs, vs, r, hst⟩ := hyes
    have HST := Lib.hid hst
    have CE : Hid (Calls Tryz.prog 67 #[.pointer (some ⟨W.heap.size, 0, none⟩)] w2 fun e w' => e = .returned (.bool (noneB r)) ∧ w2 = w') := by
      have := rend_any W.heap.size (some r) w2 hst.rd
      exact this
    clear hst
    generalize hz : noneB r = z at CE
    have HZ := Lib.hid hz
    clear hz
    have HT : Hid (Touch [b] W w2) := by
      have t := HST.out.touch
      exact (Touch.ofBelow (F := [b]) HB1.out).trans t (fun x hx => by simp only [List.mem_cons, List.not_mem_nil, or_false] at hx ⊢; rcases hx with rfl | rfl; exact .inl rfl; exact .inr (Nat.le_refl _))
    go_wp2_with (first
      | (go_at_call 67; ((with_reducible refine (CE.out).mono ?_); rintro e w3 ⟨rfl, rfl⟩)))
    go_ret
    have h := HST.out
    have hg : getF (LF.map (·.1)) s = some (xs, r) := by have := h.got; rwa [List.take_length] at this
    refine ⟨z, rfl, HT.out, fun hz => ?_, fun hz ys r' hg' => ?_⟩
    · have hr0 : r = ByteArray.empty := by
        have := HZ.out.trans hz
        rw [noneB_size] at this
        exact ba_ext (by rw [empty_data]; exact List.eq_nil_of_length_eq_zero (of_decide_eq_true this))
      subst hr0
      exact ⟨cs, xs, vs, h.blk, h.size, hg, h.lens, fun i a1 a2 a3 => ⟨(h.done i a1 a2 a3).1, (h.done i a1 a2 a3).2.mono HB1.out.size⟩, h.apart⟩
    · rw [hg] at hg'
      injection hg' with hg'
      injection hg' with _ hr'
      subst hr'
      have := HZ.out.trans hz
      rw [noneB_size] at this
      exact of_decide_eq_false this
  · have HNO := Lib.hid hno
    clear hno
    go_wp2_with fail
    go_ret
    obtain ⟨h1, h2, h3, h4⟩ := HNO.out
    refine ⟨false, rfl, (Touch.ofBelow (F := [b]) HB1.out).trans h2 (fun x hx => by simp only [List.mem_cons, List.not_mem_nil, or_false] at hx ⊢; rcases hx with rfl | rfl; exact .inl rfl; exact .inr (Nat.le_refl _)), fun hh => (by cases hh), fun _ xs r hg => ?_⟩
    rw [h1] at hg
    cases hg
theorem results_row_tmp {fn : Func} {p u : Tmp} {ty : TypeId} (h : fn.results = #[.cell p ty, .tmp u]) (tmps : Array Value) (w : World) (g : Nat) (cs : Array Value) (x : Value) (hp : tmps.getD p undef = .pointer (some ⟨g, 0, none⟩)) (hx : tmps.getD u undef = x)
    (hl : (loadVar ty ⟨g, 0, none⟩).run Tryz.prog w = .ok (.agg cs) w) : (results fn tmps).run Tryz.prog w = .ok (.tuple #[.agg cs, x]) w := by
  rw [results_cell_tmp h, hp, hx]
  simp only [asAddr, Sem.run_pure, Result.andThen_ok, hl]
theorem loadVar_letter (w : World) (b : Nat) (cs : Array Value) (hs : cs.size = 21) (hb : w.heap[b]? = some (.cells cs 32)) : (loadVar 32 ⟨b, 0, none⟩).run Tryz.prog w = .ok (.agg cs) w := by
  have hi : (Tryz.prog.info? 32).map (·.size) = some 21 := by kernel_rfl
  exact run_loadVar_row w b 32 32 cs (0, 0) _ hb Tryz.underlying32 rfl (hi.trans (congrArg some hs.symm))
theorem setRow_at {w : World} {g : Nat} {old : Array Value} {T : TypeId} (cs : Array Value) (h : w.heap[g]? = some (.cells old T)) : (w.setRow g cs).heap[g]? = some (.cells cs T) := by
  simp [World.setRow, Array.getElem?_modify, h]
theorem grown_setRow_ (w : World) (g : Nat) (cs : Array Value) : w.grownBy (w.setRow g cs) (some g) :=
  ⟨rfl, rfl, rfl, by simp, fun k _ hk => setRow_other w g k cs (fun e => hk (by rw [e]))⟩
theorem setRow_touch (w : World) (g : Nat) (cs : Array Value) : Touch [g] w (w.setRow g cs) :=
  (Touch.refl [g] w).grown (grown_setRow_ w g cs) (fun k hk => .inl (by simp [Option.some.inj hk]))
theorem below_setRow {w : World} {g B : Nat} (cs : Array Value) (h : B ≤ g) : Below B w (w.setRow g cs) := by
  have t := setRow_touch w g cs
  exact ⟨t.os, t.tape, t.output, t.size, fun k hk => by
    simp only [World.setRow]
    rw [Array.getElem?_modify]
    split
    · omega
    · rfl⟩
theorem setRow_row {w : World} {g base e size n : Nat} {v : Value} {xs : List Value} (cs : Array Value) (h : w.ownsRow base e size v n xs) (hg : g < base) : (w.setRow g cs).ownsRow base e size v n xs :=
  Touch.row (setRow_touch w g cs) h (fun q hq => by have := (h.lt q hq).1; simp only [List.mem_cons, List.not_mem_nil, or_false]; omega)
/-- the zero letter's cells -/
abbrev ZC : Array Value := #[.int .i64 0, .int .i64 0, .int .i64 0, .int .i64 0, .int .i64 0, .string ⟨#[]⟩, .string ⟨#[]⟩, .string ⟨#[]⟩, .int .i64 0, .int .i64 0, .string ⟨#[]⟩, .slice none 0 0, .bool false, .string ⟨#[]⟩, .int .i64 0, .int .u64 0, .int .u64 0, .int .i64 0, .slice none 0 0, .int .i64 0, .int .i64 0]
def LLF : List (FK × Nat) := List.zip LK LOff
theorem llf_len : LLF.length = 21 := rfl
theorem llf_fst : LLF.map (·.1) = LK := rfl
theorem llf_zero : ∀ i (h : i < LLF.length), ZC[(LLF[i]).2]? = some (zeroK (LLF[i]).1) := by
  intro i h
  have h' : i < 21 := h
  have hc : i = 0 ∨ i = 1 ∨ i = 2 ∨ i = 3 ∨ i = 4 ∨ i = 5 ∨ i = 6 ∨ i = 7 ∨ i = 8 ∨ i = 9 ∨ i = 10 ∨ i = 11 ∨ i = 12 ∨ i = 13 ∨ i = 14 ∨ i = 15 ∨ i = 16 ∨ i = 17 ∨ i = 18 ∨ i = 19 ∨ i = 20 := by omega
  rcases hc with rfl | rfl | rfl | rfl | rfl | rfl | rfl | rfl | rfl | rfl | rfl | rfl | rfl | rfl | rfl | rfl | rfl | rfl | rfl | rfl | rfl <;> rfl
theorem llf_off : ∀ i i' (h : i < LLF.length) (h' : i' < LLF.length), i ≠ i' → (LLF[i]).2 ≠ (LLF[i']).2 := by
  have key : ∀ i i' : Fin 21, i ≠ i' → (LLF[i.1]'i.2).2 ≠ (LLF[i'.1]'i'.2).2 := by decide
  intro i i' h h' hne
  exact key ⟨i, h⟩ ⟨i', h'⟩ (fun e => hne (Fin.mk.inj e))
/-- what Get tells -/
def LGetPost (W : World) (b : ByteArray) (e : Ending) (w' : World) : Prop :=
  Below W.heap.size W w' ∧ ((getL b = none ∧ e = .returned (.tuple #[.agg ZC, .bool false])) ∨
    ∃ l S1 S2, getL b = some l ∧ e = .returned (.tuple #[.agg (l.cells S1 S2), .bool true]) ∧ w'.ownsRow W.heap.size 58 2 S1 l.ti.length (itemCells l.ti) ∧ w'.ownsRow W.heap.size 58 2 S2 l.li.length (itemCells l.li) ∧ ∀ q, S1.ownBlock = some q → S2.ownBlock ≠ some q)
theorem cells21 {cs ds : Array Value} (h : cs.size = 21) (hd : ds.size = 21) (hh : ∀ i, i < 21 → cs[i]? = ds[i]?) : cs = ds := by
  apply Array.ext_getElem?
  intro i
  rcases Nat.lt_or_ge i 21 with h' | h'
  · exact hh i h'
  · rw [Array.getElem?_eq_none (by omega), Array.getElem?_eq_none (by omega)]
set_option maxRecDepth 20000 in
theorem got21 {w : World} {B : Nat} {cs : Array Value} : ∀ {xs : List FV} {vs : List Value}, xs.length = 21 → vs.length = 21 → cs.size = 21 → (∀ i (h : i < LLF.length) (h2 : i < vs.length) (h3 : i < xs.length), cs[(LLF[i]).2]? = some vs[i] ∧ FvAt w B (LLF[i]).1 vs[i] xs[i]) → (∀ i i' (h : i < vs.length) (h2 : i' < vs.length), i ≠ i' → ∀ q, (vs[i]).ownBlock = some q → (vs[i']).ownBlock ≠ some q) → (∀ i (h : i < xs.length), i = 7 ∨ i = 8 → 0 ≤ (xs[i]).n) →
    ∃ S1 S2, cs = (LV.of xs).cells S1 S2 ∧ w.ownsRow B 58 2 S1 (LV.of xs).ti.length (itemCells (LV.of xs).ti) ∧ w.ownsRow B 58 2 S2 (LV.of xs).li.length (itemCells (LV.of xs).li) ∧ ∀ q, S1.ownBlock = some q → S2.ownBlock ≠ some q
  | [x0, x1, x2, x3, x4, x5, x6, x7, x8, x9, x10, x11, x12, x13, x14, x15, x16, x17, x18, x19, x20], [v0, v1, v2, v3, v4, v5, v6, v7, v8, v9, v10, v11, v12, v13, v14, v15, v16, v17, v18, v19, v20], _, _, hs, hd, hap, hnn => by
    have n7 : 0 ≤ x7.n := hnn 7 (by simp) (.inl rfl)
    have n8 : 0 ≤ x8.n := hnn 8 (by simp) (.inr rfl)
    have e7 : Value.int .u64 x7.n = .int .u64 ((x7.n.toNat : Nat) : Int) := by rw [Int.toNat_of_nonneg n7]
    have e8 : Value.int .u64 x8.n = .int .u64 ((x8.n.toNat : Nat) : Int) := by rw [Int.toNat_of_nonneg n8]
    obtain ⟨a0, b0⟩ := hd 0 (by decide) (by simp) (by simp)
    obtain ⟨a1, b1⟩ := hd 1 (by decide) (by simp) (by simp)
    obtain ⟨a2, b2⟩ := hd 2 (by decide) (by simp) (by simp)
    obtain ⟨a3, b3⟩ := hd 3 (by decide) (by simp) (by simp)
    obtain ⟨a4, b4⟩ := hd 4 (by decide) (by simp) (by simp)
    obtain ⟨a5, b5⟩ := hd 5 (by decide) (by simp) (by simp)
    obtain ⟨a6, b6⟩ := hd 6 (by decide) (by simp) (by simp)
    obtain ⟨a7, b7⟩ := hd 7 (by decide) (by simp) (by simp)
    obtain ⟨a8, b8⟩ := hd 8 (by decide) (by simp) (by simp)
    obtain ⟨a9, b9⟩ := hd 9 (by decide) (by simp) (by simp)
    obtain ⟨a10, b10⟩ := hd 10 (by decide) (by simp) (by simp)
    obtain ⟨a11, b11⟩ := hd 11 (by decide) (by simp) (by simp)
    obtain ⟨a12, b12⟩ := hd 12 (by decide) (by simp) (by simp)
    obtain ⟨a13, b13⟩ := hd 13 (by decide) (by simp) (by simp)
    obtain ⟨a14, b14⟩ := hd 14 (by decide) (by simp) (by simp)
    obtain ⟨a15, b15⟩ := hd 15 (by decide) (by simp) (by simp)
    obtain ⟨a16, b16⟩ := hd 16 (by decide) (by simp) (by simp)
    obtain ⟨a17, b17⟩ := hd 17 (by decide) (by simp) (by simp)
    obtain ⟨a18, b18⟩ := hd 18 (by decide) (by simp) (by simp)
    obtain ⟨a19, b19⟩ := hd 19 (by decide) (by simp) (by simp)
    obtain ⟨a20, b20⟩ := hd 20 (by decide) (by simp) (by simp)
    refine ⟨v17, v9, cells21 hs rfl fun i hi => ?_, b17, b9, fun q hq => hap 17 9 (by simp) (by simp) (by decide) q hq⟩
    have hc : i = 0 ∨ i = 1 ∨ i = 2 ∨ i = 3 ∨ i = 4 ∨ i = 5 ∨ i = 6 ∨ i = 7 ∨ i = 8 ∨ i = 9 ∨ i = 10 ∨ i = 11 ∨ i = 12 ∨ i = 13 ∨ i = 14 ∨ i = 15 ∨ i = 16 ∨ i = 17 ∨ i = 18 ∨ i = 19 ∨ i = 20 := by omega
    rcases hc with rfl | rfl | rfl | rfl | rfl | rfl | rfl | rfl | rfl | rfl | rfl | rfl | rfl | rfl | rfl | rfl | rfl | rfl | rfl | rfl | rfl
    · exact a0.trans (congrArg some b0)
    · exact a1.trans (congrArg some b1)
    · exact a2.trans (congrArg some b2)
    · exact a3.trans (congrArg some b3)
    · exact a10.trans (congrArg some b10)
    · exact a11.trans (congrArg some b11)
    · exact a12.trans (congrArg some b12)
    · exact a13.trans (congrArg some b13)
    · exact a14.trans (congrArg some b14)
    · exact a15.trans (congrArg some b15)
    · exact a16.trans (congrArg some b16)
    · exact a17
    · exact a18.trans (congrArg some b18)
    · exact a19.trans (congrArg some b19)
    · exact a20.trans (congrArg some b20)
    · exact a7.trans (congrArg some (Eq.trans b7 e7))
    · exact a8.trans (congrArg some (Eq.trans b8 e8))
    · exact a4.trans (congrArg some b4)
    · exact a9
    · exact a5.trans (congrArg some b5)
    · exact a6.trans (congrArg some b6)
/-- readAll over a letter's fields, in block B; block R stays -/
def LAll (W : World) (R B : Nat) (b : ByteArray) (e : Ending) (w' : World) : Prop :=
  w'.heap[R]? = some (.cells ZC 32) ∧ Touch [B] W w' ∧ ((e = .returned (.bool false) ∧ getL b = none) ∨ ∃ l A1 c1 A2 c2, e = .returned (.bool true) ∧ getL b = some l ∧ w'.heap[B]? = some (.cells (l.cells (.slice A1 l.ti.length c1) (.slice A2 l.li.length c2)) 32) ∧
    w'.ownsRow W.heap.size 58 2 (.slice A1 l.ti.length c1) l.ti.length (itemCells l.ti) ∧ w'.ownsRow W.heap.size 58 2 (.slice A2 l.li.length c2) l.li.length (itemCells l.li) ∧ ∀ q, (Value.slice A1 l.ti.length c1).ownBlock = some q → (Value.slice A2 l.li.length c2).ownBlock ≠ some q)
theorem lall {W w' : World} {R B : Nat} {b : ByteArray} {e : Ending} (hR : W.heap[R]? = some (.cells ZC 32)) (hne : R ≠ B) (h : AllPost W B 32 21 LLF b e w') : LAll W R B b e w' := by
  obtain ⟨res, rfl, ht, hyes, hno⟩ := h
  refine ⟨(ht.block R (lt_of_heap hR) (by simpa using hne)).trans hR, ht, ?_⟩
  rw [llf_fst] at hyes hno
  cases res with
  | false =>
    refine .inl ⟨rfl, ?_⟩
    unfold getL
    cases hg : getF LK b with
    | none => rfl
    | some p =>
      obtain ⟨xs, r⟩ := p
      simp only
      rw [if_neg (hno rfl xs r hg)]
  | true =>
    obtain ⟨cs, xs, vs, h1, h2, h3, h4, h5, h6⟩ := hyes rfl
    obtain ⟨c1, c2, -⟩ := getF_canon _ _ _ _ h3
    have hx : xs.length = 21 := c1
    obtain ⟨S1, S2, g1, g2, g3, g4⟩ := got21 hx h4 h2 h5 h6 (fun i hi h78 => by
      rcases h78 with rfl | rfl
      · exact (c2 7 (by decide) hi).1.1
      · exact (c2 8 (by decide) hi).1.1)
    obtain ⟨A1, k1, rfl⟩ := own_slice g2
    obtain ⟨A2, k2, rfl⟩ := own_slice g3
    subst g1
    refine .inr ⟨LV.of xs, A1, k1, A2, k2, rfl, ?_, h1, g2, g3, g4⟩
    unfold getL
    rw [h3]
    simp only
    rw [if_pos (by rfl)]
set_option maxRecDepth 20000 in
set_option maxHeartbeats 2000000 in
theorem lget_any (b : ByteArray) (W : World) (hs : b.size ≤ 9223372036854775807) : Calls Tryz.prog 12 #[.string b] W (LGetPost W b) := by
  have CO := Lib.hid of_letter21
  have CA : Hid (∀ w A c, w.heap[W.heap.size]? = some (.cells ZC 32) → w.heap[W.heap.size + 1]? = some (.cells ZC 32) → FieldsAt w A (letterFs (W.heap.size + 1)) → (∀ q o, A = some ⟨q, o, none⟩ → q ≠ W.heap.size + 1 ∧ q < w.heap.size) → Calls Tryz.prog 30 #[.string b, .slice A 21 c] w (LAll w W.heap.size (W.heap.size + 1) b)) := fun w A c h0 h1 h2 h3 =>
    (readAll_any w (W.heap.size + 1) ZC 32 LLF 21 b A c rfl h1 llf_zero hs llf_off (by decide) h2 h3).mono fun _ _ h => lall h0 (by omega) h
  clear hs
  have W0 : Below W.heap.size W ((W.alloc (.cells ZC 32)).alloc (.cells ZC 32)) := ((Below.refl _ _).alloc (Nat.le_refl _) _).alloc (by simp) _
  have r0 : ((W.alloc (.cells ZC 32)).alloc (.cells ZC 32)).heap[W.heap.size]? = some (.cells ZC 32) := (Lib.alloc_old _ _ _ (by simp)).trans (heap_alloc_new W _)
  have b0 : ((W.alloc (.cells ZC 32)).alloc (.cells ZC 32)).heap[W.heap.size + 1]? = some (.cells ZC 32) := by
    have := heap_alloc_new (W.alloc (.cells ZC 32)) (.cells ZC 32)
    simpa using this
  have hsz : (Tryz.prog.info? 32).map (·.size) = some 21 := by kernel_rfl
  have H0 : Hid (Below W.heap.size W ((W.alloc (.cells ZC 32)).alloc (.cells ZC 32)) ∧ ((W.alloc (.cells ZC 32)).alloc (.cells ZC 32)).heap[W.heap.size]? = some (.cells ZC 32) ∧ ((W.alloc (.cells ZC 32)).alloc (.cells ZC 32)).heap[W.heap.size + 1]? = some (.cells ZC 32) ∧ ((W.alloc (.cells ZC 32)).alloc (.cells ZC 32)).heap.size = W.heap.size + 1 + 1) := ⟨W0, r0, b0, by simp⟩
  clear W0 r0 b0
  go_enter Tryz.func12, Tryz.ntmps12
  go_wp2_with (first
    | (go_at_call 20; ((with_reducible refine (CO.out _ _).mono ?_); rintro e w1 ⟨c1, rfl, hf1, hb1, hs1⟩; have hs2 : W.heap.size + 1 + 1 < w1.heap.size := (by simpa using hs1); have CR := Lib.hid (CA.out w1 (some ⟨W.heap.size + 1 + 1, 0, none⟩) c1 ((hb1.block _ (by simp; omega)).trans H0.out.2.1) ((hb1.block _ (by simp)).trans H0.out.2.2.1) (H0.out.2.2.2 ▸ hf1) (fun q o hq => by injection hq with hq; injection hq with hq _ _; exact ⟨by omega, by omega⟩)); have HB1 : Hid (Below W.heap.size W w1 ∧ w1.heap[W.heap.size]? = some (.cells ZC 32)) := ⟨acc H0.out.1 hb1, (hb1.block _ (by simp; omega)).trans H0.out.2.1⟩; clear hf1 hb1 hs1 hs2))
    | (go_at_call 30; fail))
  go_at_call 30
  with_reducible refine (CR.out).mono ?_
  rintro e w2 ⟨hr2, ht, (⟨rfl, hno⟩ | ⟨l, A1, k1, A2, k2, rfl, hgl, hB2, ho1, ho2, hap⟩)⟩
  · have hszC : (Tryz.prog.info? 32).map (·.size) = some ZC.size := hsz
    have honeZ : ZC.all (·.oneCell') = true := by first | decide | simp [ZC, Value.oneCell']
    go_wp2_with (with_reducible (show wpList _ _ _ (⟨none, Op.store _ _ _, _, _, _, _⟩ :: _) _ _); go_must (refine wpList_store_row rfl 32 (.tmp 2) (.tmp 9) rfl W.heap.size ZC rfl rfl 32 ZC hr2 hszC rfl honeZ ?_))
    refine bodyPost_ret (results_row_tmp rfl _ _ W.heap.size ZC (.bool false) rfl rfl (loadVar_letter _ _ _ rfl (setRow_at _ hr2))) rfl ?_
    exact ⟨(HB1.out.1.trans (ht.below HB1.out.1.size (fun x hx => by simp only [List.mem_cons, List.not_mem_nil, or_false] at hx; omega))).trans (below_setRow _ (Nat.le_refl _)), .inl ⟨hno, rfl⟩⟩
  · have hszC : (Tryz.prog.info? 32).map (·.size) = some (l.cells (.slice A1 l.ti.length k1) (.slice A2 l.li.length k2)).size := hsz
    have hone : (l.cells (.slice A1 l.ti.length k1) (.slice A2 l.li.length k2)).all (·.oneCell') = true := by first | kernel_rfl | simp [LV.cells, Value.oneCell']
    have hold : ZC.size = (l.cells (.slice A1 l.ti.length k1) (.slice A2 l.li.length k2)).size := rfl
    go_wp2_with (first
      | (with_reducible (show wpList _ _ _ (⟨some _, Op.load _ _, _, _, _, _⟩ :: _) _ _); go_must (refine wpList_load_row rfl 32 (.tmp 4) rfl (W.heap.size + 1) rfl 32 (l.cells (.slice A1 l.ti.length k1) (.slice A2 l.li.length k2)) (0, 0) _ hB2 Tryz.underlying32 rfl hszC ?_))
      | (with_reducible (show wpList _ _ _ (⟨none, Op.store _ _ _, _, _, _, _⟩ :: _) _ _); go_must (refine wpList_store_row rfl 32 (.tmp 2) (.tmp 10) rfl W.heap.size (l.cells (.slice A1 l.ti.length k1) (.slice A2 l.li.length k2)) rfl rfl 32 ZC hr2 hszC hold hone ?_)))
    refine bodyPost_ret (results_row_tmp rfl _ _ W.heap.size (l.cells (.slice A1 l.ti.length k1) (.slice A2 l.li.length k2)) (.bool true) rfl rfl (loadVar_letter _ _ _ rfl (setRow_at _ hr2))) rfl ?_
    have hz := HB1.out.1.size
    refine ⟨(HB1.out.1.trans (ht.below HB1.out.1.size (fun x hx => by simp only [List.mem_cons, List.not_mem_nil, or_false] at hx; omega))).trans (below_setRow _ (Nat.le_refl _)), .inr ⟨l, _, _, hgl, rfl, own_mono (setRow_row _ ho1 (by have := lt_of_heap HB1.out.2; omega)) hz, own_mono (setRow_row _ ho2 (by have := lt_of_heap HB1.out.2; omega)) hz, hap⟩⟩
end Go.Proofs.YtbnmddopgbhapaaGreat
