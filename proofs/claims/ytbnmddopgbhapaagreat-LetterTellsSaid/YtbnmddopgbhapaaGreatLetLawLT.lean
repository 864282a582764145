/-
  Every letter as bytes, and back; every bytes: the walk of LetterTells.
-/
import Derived.Test.YtbnmddopgbhapaaGreatLetLent
import Derived.Test.YtbnmddopgbhapaaGreatLetRefBP
import Derived.Test.YtbnmddopgbhapaaGreatLetRefC
import Derived.Test.YtbnmddopgbhapaaGreatLetRefGet
import Derived.Test.YtbnmddopgbhapaaGreatLetAlive
import Derived.Test.YtbnmddopgbhapaaGreatLetLight
import Derived.Test.YtbnmddopgbhapaaGreatLetLawC
import Derived.Test.YtbnmddopgbhapaaGreatLetLawB
import Derived.Test.YtbnmddopgbhapaaGreatBookKeep
import Derived.Deep.RegionHeld3
import Derived.Deep.DeepCutAuto
namespace Go.Proofs.YtbnmddopgbhapaaGreat
open Go.RowKit

theorem light_lens {l : LV} (h : lightB l = true) : l.ti.length ≤ 60 ∧ l.li.length ≤ 60 := by
  unfold lightB lightL at h
  simp only [Bool.and_eq_true, decide_eq_true_eq] at h
  exact ⟨h.2.1.1, h.1.1⟩
theorem may_lens {l : LV} (h : mayB l = true) : l.ti.length ≤ 40 ∧ l.li.length ≤ 40 := by
  unfold mayB linesB at h
  simp only [Bool.and_eq_true, decide_eq_true_eq] at h
  obtain ⟨-, -, -, -, -, -, -, -, ⟨-, q1⟩, -, -, -, -, -, -, -, -, -, ⟨-, q2⟩, -⟩ := h
  exact ⟨q2, q1⟩
theorem getL_lens (c : ByteArray) : ((getL c).getD ZL).ti.length ≤ 40 ∧ ((getL c).getD ZL).li.length ≤ 40 := by
  cases h : getL c with
  | none => exact ⟨Nat.zero_le _, Nat.zero_le _⟩
  | some m => exact may_lens (l := m) (by rw [← putL_may, (getL_put h).1]; rfl)
theorem zc_zl : ZC = ZL.cells (.slice none 0 0) (.slice none 0 0) := rfl
/-- what both readers tell of bytes -/
def GLP (W : World) (m : LV) (is : Bool) (e : Ending) (w' : World) : Prop :=
  Below W.heap.size W w' ∧ ∃ A7 c7 A8 c8, e = .returned (.tuple #[.agg (m.cells (.slice A7 m.ti.length c7) (.slice A8 m.li.length c8)), .bool is]) ∧
    w'.ownsRow W.heap.size 58 2 (.slice A7 m.ti.length c7) m.ti.length (itemCells m.ti) ∧ w'.ownsRow W.heap.size 58 2 (.slice A8 m.li.length c8) m.li.length (itemCells m.li)
def GLQ (W : World) (m : LV) (is : Bool) (e : Ending) (w' : World) : Prop :=
  Below W.heap.size W w' ∧ ∃ A7 c7 A8 c8, e = .returned (.tuple #[.agg (m.cells (.slice A7 m.ti.length c7) (.slice A8 m.li.length c8)), .bool is]) ∧
    w'.ownsRow W.heap.size 58 2 (.slice A7 m.ti.length c7) m.ti.length (itemCells m.ti) ∧ w'.ownsRow W.heap.size 58 2 (.slice A8 m.li.length c8) m.li.length (itemCells m.li) ∧
    ∀ q, (Value.slice A8 m.li.length c8).ownBlock = some q → (Value.slice A7 m.ti.length c7).ownBlock ≠ some q
theorem gl_any (c : ByteArray) (W : World) (hs : c.size ≤ 9223372036854775807) : Calls Tryz.prog 12 #[.string c] W (GLQ W ((getL c).getD ZL) (getL c).isSome) := by
  refine (lget_any c W hs).mono ?_
  rintro e w' ⟨hb, ⟨h1, h2⟩ | ⟨m, S1, S2, h1, h2, h3, h4, h5⟩⟩
  · rw [h1]
    exact ⟨hb, none, 0, none, 0, h2, World.ownsRow_nil _ _ _ _, World.ownsRow_nil _ _ _ _, fun q hq => by cases hq⟩
  · obtain ⟨A1, k1, rfl⟩ := own_slice h3
    obtain ⟨A2, k2, rfl⟩ := own_slice h4
    rw [h1]
    exact ⟨hb, A1, k1, A2, k2, h2, h3, h4, fun q hq hq' => h5 q hq' hq⟩
theorem dgl_any (c : ByteArray) (W : World) (hs : c.size ≤ 9223372036854775807) : Calls Tryz.prog 13 #[.string c] W (GLP W ((getL c).getD ZL) (getL c).isSome) := by
  refine (dget_any c W hs).mono ?_
  rintro e w' ⟨hb, ⟨h1, h2⟩ | ⟨m, S1, S2, h1, -, h2, ⟨b3, g3, h3⟩, b4, g4, h4⟩⟩
  · rw [h1]
    exact ⟨hb, none, 0, none, 0, h2, World.ownsRow_nil _ _ _ _, World.ownsRow_nil _ _ _ _⟩
  · obtain ⟨A1, k1, rfl⟩ := own_slice h3
    obtain ⟨A2, k2, rfl⟩ := own_slice h4
    rw [h1]
    exact ⟨hb, A1, k1, A2, k2, h2, own_mono h3 g3, own_mono h4 g4⟩
theorem new_rowL (w : World) (X : Array Value) : (((w.alloc (.cells ZC 32)).setRow w.heap.size X).heap[w.heap.size]? = some (.cells X 32)) ∧ Below w.heap.size w ((w.alloc (.cells ZC 32)).setRow w.heap.size X) :=
  ⟨setRow_at _ (heap_alloc_new w _), ((Below.refl _ _).alloc (Nat.le_refl _) _).trans (below_setRow _ (Nat.le_refl _))⟩
theorem Lent.set {K : Nat} {w : World} {A : Option Addr} {c n : Nat} {l : List Item} (h : Lent K w A c n l) {p : Addr} (hp : p.block < K) (u : Value) : Lent K (w.setCell p u) A c n l :=
  ⟨h.1, ((Touch.refl [p.block] w).set (by simp) u).row h.2 (fun q hq => by have := (h.2.lt q hq).1; simp; omega)⟩
theorem same_self (m : LV) (S1 S2 R1 R2 : Value) (W : World) (h1 : SlAt W S1 m.ti) (h2 : SlAt W S2 m.li) (h3 : SlAt W R1 m.ti) (h4 : SlAt W R2 m.li) :
    Calls Tryz.prog 15 #[.agg (m.cells S1 S2), .agg (m.cells R1 R2)] W fun e w' => e = .returned (.bool true) ∧ Below W.heap.size W w' := by
  have z := sameLetter_any m m S1 S2 R1 R2 W h1 h2 h3 h4
  rwa [(sameLB_iff m m).2 rfl] at z
theorem es_lens {es : List (Value × List Item)} {u v : Value} {l m : List Item} (h : ∀ x ∈ es, x.2.length ≤ 90000) {x : Value × List Item} (hx : x ∈ es ++ [(u, l)] ++ [(v, m)]) (ha : l.length ≤ 90000) (hb : m.length ≤ 90000) : x.2.length ≤ 90000 := by
  rcases List.mem_append.1 hx with z | z
  · rcases List.mem_append.1 z with z | z
    · exact h x z
    · obtain rfl := List.mem_singleton.1 z; exact ha
  · obtain rfl := List.mem_singleton.1 z; exact hb
theorem putL_small {l : LV} {b : ByteArray} (h : putL l = some b) : b.size ≤ 9223372036854775807 := by
  have := catO_le 1000000 (letterOs l) (letterOs_le l)
  have e1 : catO (letterOs l) = some b := h
  have e2 : (letterOs l).length = 21 := rfl
  rw [e1, e2] at this
  have h3 : b.size ≤ 21 * 1000000 := this
  omega
set_option maxRecDepth 100000 in
set_option maxHeartbeats 16000000 in
theorem letterTells_any (l : LV) (S1 S2 : Value) (b : ByteArray) (W : World) (hF : l.Fine) (h1 : SlAt W S1 l.ti) (h2 : SlAt W S2 l.li) (hb : b.size ≤ 9223372036854775807) :
    Calls Tryz.prog 3 #[.agg (l.cells S1 S2), .string b] W fun e w' => e = .returned (.bool true) ∧ Below W.heap.size W w' := by
  obtain ⟨A1, k1, e1, -, -, -⟩ := id h1
  obtain ⟨A2, k2, e2, -, -, -⟩ := id h2
  subst e1 e2
  have hlt : lightB l = true → l.ti.length ≤ 60 ∧ l.li.length ≤ 60 := light_lens
  obtain ⟨n1, hn1⟩ : ∃ n, l.ti.length = n := ⟨_, rfl⟩
  obtain ⟨n2, hn2⟩ : ∃ n, l.li.length = n := ⟨_, rfl⟩
  have cl0 : ∀ w, SlAt w (.slice A1 l.ti.length k1) l.ti → SlAt w (.slice A2 l.li.length k2) l.li → Calls Tryz.prog 4 #[.agg (l.cells (.slice A1 l.ti.length k1) (.slice A2 l.li.length k2))] w fun e w' => e = .returned (.bool (lightB l)) ∧ Below w.heap.size w w' := fun w a b => light_any l _ _ w hF a b
  rw [hn1, hn2] at hlt cl0 ⊢
  rw [hn1] at h1
  rw [hn2] at h2
  have bw : Below W.heap.size W (W.alloc (.cells (l.cells (.slice A1 n1 k1) (.slice A2 n2 k2)) 32)) := (Below.refl W.heap.size W).alloc (Nat.le_refl _) _
  have HB0 : Hid (Below (W.alloc (.cells (l.cells (.slice A1 n1 k1) (.slice A2 n2 k2)) 32)).heap.size (W.alloc (.cells (l.cells (.slice A1 n1 k1) (.slice A2 n2 k2)) 32)) (W.alloc (.cells (l.cells (.slice A1 n1 k1) (.slice A2 n2 k2)) 32))) := Below.refl _ _
  have up : ∀ w, Below (W.alloc (.cells (l.cells (.slice A1 n1 k1) (.slice A2 n2 k2)) 32)).heap.size (W.alloc (.cells (l.cells (.slice A1 n1 k1) (.slice A2 n2 k2)) 32)) w → Below W.heap.size W w := fun w hb => bw.trans (hb.mono (by simp))
  have UP := Lib.hid up
  have hszl : (Tryz.prog.info? 32).map (·.size) = some (l.cells (.slice A1 n1 k1) (.slice A2 n2 k2)).size := by kernel_rfl
  have HR : Hid (∀ w, Below (W.alloc (.cells (l.cells (.slice A1 n1 k1) (.slice A2 n2 k2)) 32)).heap.size (W.alloc (.cells (l.cells (.slice A1 n1 k1) (.slice A2 n2 k2)) 32)) w → w.heap[W.heap.size]? = some (.cells (l.cells (.slice A1 n1 k1) (.slice A2 n2 k2)) 32)) := fun w hb =>
    (hb.block _ (by simp)).trans (heap_alloc_new W (.cells (l.cells (.slice A1 n1 k1) (.slice A2 n2 k2)) 32))
  have CA : Hid (∀ w, Below (W.alloc (.cells (l.cells (.slice A1 n1 k1) (.slice A2 n2 k2)) 32)).heap.size (W.alloc (.cells (l.cells (.slice A1 n1 k1) (.slice A2 n2 k2)) 32)) w → Calls Tryz.prog 5 #[] w fun e w' => e = .returned (.bool true) ∧ Below w.heap.size w w') := fun w _ => alive_any w
  have cl : ∀ w, Below (W.alloc (.cells (l.cells (.slice A1 n1 k1) (.slice A2 n2 k2)) 32)).heap.size (W.alloc (.cells (l.cells (.slice A1 n1 k1) (.slice A2 n2 k2)) 32)) w → Calls Tryz.prog 4 #[.agg (l.cells (.slice A1 n1 k1) (.slice A2 n2 k2))] w fun e w' => e = .returned (.bool (lightB l)) ∧ Below w.heap.size w w' := fun w hb => cl0 w (h1.below (up w hb)) (h2.below (up w hb))
  have HSL : Hid (∀ w, Below (W.alloc (.cells (l.cells (.slice A1 n1 k1) (.slice A2 n2 k2)) 32)).heap.size (W.alloc (.cells (l.cells (.slice A1 n1 k1) (.slice A2 n2 k2)) 32)) w → SlAt w (.slice A1 n1 k1) l.ti ∧ SlAt w (.slice A2 n2 k2) l.li) := fun w hb => ⟨h1.below (up w hb), h2.below (up w hb)⟩
  have hb0 : b.size ≤ 9223372036854775807 := hb
  have HN1 := Lib.hid hn1
  have HN2 := Lib.hid hn2
  clear h1 h2 up bw hb cl0 hn1 hn2
  generalize lightB l = q1 at *
  have CL := Lib.hid cl
  clear cl
  cases q1 with
  | false =>
    clear hF hlt
    go_enter Tryz.func3, Tryz.ntmps3
    go_wp2_with (first
      | (with_reducible (show wpList _ _ _ (⟨some _, Op.load _ (Operand.tmp 2), _, _, _, _⟩ :: _) _ _); go_must (refine wpList_load_rowH (by first | rfl | kernel_rfl) 32 (.tmp 2) rfl W.heap.size rfl 32 (l.cells (.slice A1 n1 k1) (.slice A2 n2 k2)) (0, 0) _ (HR.out _ (by first | exact HB2.out | exact HB1.out | exact HB0.out)) Tryz.underlying32 rfl hszl ?_))
      | (go_at_call 4; ((with_reducible refine (CL.out _ HB0.out).mono ?_); rintro e w1 ⟨rfl, hb⟩; have HB1 : Hid (Below (W.alloc (.cells (l.cells (.slice A1 n1 k1) (.slice A2 n2 k2)) 32)).heap.size (W.alloc (.cells (l.cells (.slice A1 n1 k1) (.slice A2 n2 k2)) 32)) w1) := acc HB0.out hb; clear hb))
      | (go_at_call 5; ((with_reducible refine (CA.out _ HB1.out).mono ?_); rintro e w2 ⟨rfl, hb⟩; have HB2 : Hid (Below (W.alloc (.cells (l.cells (.slice A1 n1 k1) (.slice A2 n2 k2)) 32)).heap.size (W.alloc (.cells (l.cells (.slice A1 n1 k1) (.slice A2 n2 k2)) 32)) w2) := acc HB1.out hb; clear hb)))
    go_ret
    exact ⟨rfl, UP.out _ HB2.out⟩
  | true =>
    obtain ⟨hl1, hl2⟩ := hlt rfl
    clear hlt
    by_cases h3 : 3000 < b.size
    · have d3 : decide ((3000 : Int) < (b.size : Int)) = true := by simp; omega
      clear hF
      go_enter Tryz.func3, Tryz.ntmps3
      go_wp2_with (first
        | (with_reducible (show wpList _ _ _ (⟨some _, Op.load _ (Operand.tmp 2), _, _, _, _⟩ :: _) _ _); go_must (refine wpList_load_rowH (by first | rfl | kernel_rfl) 32 (.tmp 2) rfl W.heap.size rfl 32 (l.cells (.slice A1 n1 k1) (.slice A2 n2 k2)) (0, 0) _ (HR.out _ (by first | exact HB2.out | exact HB1.out | exact HB0.out)) Tryz.underlying32 rfl hszl ?_))
        | (go_at_call 4; ((with_reducible refine (CL.out _ HB0.out).mono ?_); rintro e w1 ⟨rfl, hb⟩; have HB1 : Hid (Below (W.alloc (.cells (l.cells (.slice A1 n1 k1) (.slice A2 n2 k2)) 32)).heap.size (W.alloc (.cells (l.cells (.slice A1 n1 k1) (.slice A2 n2 k2)) 32)) w1) := acc HB0.out hb; clear hb))
        | (go_at_call 5; ((with_reducible refine (CA.out _ HB1.out).mono ?_); rintro e w2 ⟨rfl, hb⟩; have HB2 : Hid (Below (W.alloc (.cells (l.cells (.slice A1 n1 k1) (.slice A2 n2 k2)) 32)).heap.size (W.alloc (.cells (l.cells (.slice A1 n1 k1) (.slice A2 n2 k2)) 32)) w2) := acc HB1.out hb; clear hb)))
      go_ret
      exact ⟨rfl, UP.out _ HB2.out⟩
    · have d3 : decide ((3000 : Int) < (b.size : Int)) = false := by simp; omega
      have CL2 : Hid (∀ w, Below (W.alloc (.cells (l.cells (.slice A1 n1 k1) (.slice A2 n2 k2)) 32)).heap.size (W.alloc (.cells (l.cells (.slice A1 n1 k1) (.slice A2 n2 k2)) 32)) w → Calls Tryz.prog 6 #[(.slice A2 n2 k2)] w fun e w' => ∃ A c, e = .returned (.slice A n2 c) ∧ Lent w.heap.size w' A c n2 l.li ∧ Below w.heap.size w w') := fun w hw => lentItems_any _ l.li n2 w (HSL.out w hw).2 HN2.out (by omega)
      have CL1 : Hid (∀ w, Below (W.alloc (.cells (l.cells (.slice A1 n1 k1) (.slice A2 n2 k2)) 32)).heap.size (W.alloc (.cells (l.cells (.slice A1 n1 k1) (.slice A2 n2 k2)) 32)) w → Calls Tryz.prog 6 #[(.slice A1 n1 k1)] w fun e w' => ∃ A c, e = .returned (.slice A n1 c) ∧ Lent w.heap.size w' A c n1 l.ti ∧ Below w.heap.size w w') := fun w hw => lentItems_any _ l.ti n1 w (HSL.out w hw).1 HN1.out (by omega)
      have hold : Hid (ZC.size = (l.cells (.slice A1 n1 k1) (.slice A2 n2 k2)).size) := rfl
      have hone : Hid ((l.cells (.slice A1 n1 k1) (.slice A2 n2 k2)).all (·.oneCell') = true) := by show _ = _; first | kernel_rfl | simp [Value.oneCell']
      have HL12 : Hid (n1 ≤ 60 ∧ n2 ≤ 60) := ⟨hl1, hl2⟩
      clear h3 hl1 hl2
      cases hp : putL l with
      | none =>
        have HBS : Hid ((⟨#[]⟩ : ByteArray).size ≤ 9223372036854775807 ∧ b.size ≤ 9223372036854775807) := ⟨by decide, hb0⟩
        have cp : ∀ w T1 T2, SlAt w T1 l.ti → SlAt w T2 l.li → Calls Tryz.prog 7 #[.agg (l.cells T1 T2)] w (PutPost w l) := fun w T1 T2 a b => lput_any l T1 T2 w hF a b
        have cr : ∀ w T1 T2, SlAt w T1 l.ti → SlAt w T2 l.li → Calls Tryz.prog 9 #[.agg (l.cells T1 T2)] w fun e w' => e = .returned (.bool (putL l).isSome) ∧ Below w.heap.size w w' := fun w T1 T2 a b => lright_any l T1 T2 w hF a b
        have cd : ∀ w T1 T2, SlAt w T1 l.ti → SlAt w T2 l.li → Calls Tryz.prog 8 #[.agg (l.cells T1 T2)] w fun e w' => e = .returned (.bool (putL l).isSome) ∧ Below w.heap.size w w' := fun w T1 T2 a b => by rw [putL_may]; exact dletter_any l T1 T2 w hF a b
        unfold PutPost at cp
        rw [hp] at cp cr cd
        have CP0 : Hid (∀ w T1 T2, SlAt w T1 l.ti → SlAt w T2 l.li → Calls Tryz.prog 7 #[.agg (l.cells T1 T2)] w fun e w' => e = .returned (.tuple #[.string ⟨#[]⟩, .bool false]) ∧ Below w.heap.size w w') := cp
        have CR0 : Hid (∀ w T1 T2, SlAt w T1 l.ti → SlAt w T2 l.li → Calls Tryz.prog 9 #[.agg (l.cells T1 T2)] w fun e w' => e = .returned (.bool false) ∧ Below w.heap.size w w') := cr
        have CD0 : Hid (∀ w T1 T2, SlAt w T1 l.ti → SlAt w T2 l.li → Calls Tryz.prog 8 #[.agg (l.cells T1 T2)] w fun e w' => e = .returned (.bool false) ∧ Below w.heap.size w w') := cd
        have HK : Hid (-9223372036854775808 ≤ l.k ∧ l.k ≤ 9223372036854775807) := hF.kB
        clear cp cr cd hp hF hb0
        go_enter Tryz.func3, Tryz.ntmps3
        go_upto_region 4 with (first
          | (with_reducible (show wpList _ _ _ (⟨some _, Op.load _ (Operand.tmp 2), _, _, _, _⟩ :: _) _ _); go_must (refine wpList_load_rowH (by first | rfl | kernel_rfl) 32 (.tmp 2) rfl W.heap.size rfl 32 (l.cells (.slice A1 n1 k1) (.slice A2 n2 k2)) (0, 0) _ (HR.out _ (by first | exact HB2.out | exact HB1.out | exact HB0.out)) Tryz.underlying32 rfl hszl ?_))
          | (with_reducible (show wpList _ _ _ (⟨none, Op.store _ (Operand.tmp 5) _, _, _, _, _⟩ :: _) _ _); go_must (refine wpList_store_row rfl 32 (.tmp 5) (.tmp 31) rfl w2.heap.size (l.cells (.slice A1 n1 k1) (.slice A2 n2 k2)) rfl rfl 32 ZC (heap_alloc_new w2 _) hszl hold.out hone.out ?_))
          | (go_at_call 4; ((with_reducible refine (CL.out _ HB0.out).mono ?_); rintro e w1 ⟨rfl, hb⟩; have HB1 : Hid (Below (W.alloc (.cells (l.cells (.slice A1 n1 k1) (.slice A2 n2 k2)) 32)).heap.size (W.alloc (.cells (l.cells (.slice A1 n1 k1) (.slice A2 n2 k2)) 32)) w1) := acc HB0.out hb; clear hb))
          | (go_at_call 5; ((with_reducible refine (CA.out _ HB1.out).mono ?_); rintro e w2 ⟨rfl, hb⟩; have HB2 : Hid (Below (W.alloc (.cells (l.cells (.slice A1 n1 k1) (.slice A2 n2 k2)) 32)).heap.size (W.alloc (.cells (l.cells (.slice A1 n1 k1) (.slice A2 n2 k2)) 32)) w2) := acc HB1.out hb; clear hb)))
        obtain ⟨rm, bm⟩ := new_rowL w2 (l.cells (.slice A1 n1 k1) (.slice A2 n2 k2))
        have HB3 := Lib.hid (acc HB2.out bm)
        have hbM1 : (W.alloc (.cells (l.cells (.slice A1 n1 k1) (.slice A2 n2 k2)) 32)).heap.size ≤ w2.heap.size := HB2.out.size
        obtain ⟨bM, hbM⟩ : ∃ n, w2.heap.size = n := ⟨_, rfl⟩
        obtain ⟨w3, hw3⟩ : ∃ w, ((w2.alloc (.cells ZC 32)).setRow w2.heap.size (l.cells (.slice A1 n1 k1) (.slice A2 n2 k2))) = w := ⟨_, rfl⟩
        rw [hw3] at rm HB3 ⊢
        rw [hbM] at rm hbM1 ⊢
        have RM : Hid (∀ w, Below w3.heap.size w3 w → w.heap[bM]? = some (.cells (l.cells (.slice A1 n1 k1) (.slice A2 n2 k2)) 32)) := fun w h => (h.block _ (lt_of_heap rm)).trans rm
        have hbM3 : bM < w3.drew.heap.size := lt_of_heap rm
        have hc0 : Below (W.alloc (.cells (l.cells (.slice A1 n1 k1) (.slice A2 n2 k2)) 32)).heap.size (W.alloc (.cells (l.cells (.slice A1 n1 k1) (.slice A2 n2 k2)) 32)) w3.drew := HB3.out.drew
        have hd0 : Below w3.heap.size w3 w3.drew := (Below.refl _ _).drew
        have HSS : Hid (∀ w, Below (W.alloc (.cells (l.cells (.slice A1 n1 k1) (.slice A2 n2 k2)) 32)).heap.size (W.alloc (.cells (l.cells (.slice A1 n1 k1) (.slice A2 n2 k2)) 32)) w → w.cell? ⟨W.heap.size, 18, none⟩ = some (.slice A2 n2 k2) ∧ w.cell? ⟨W.heap.size, 11, none⟩ = some (.slice A1 n1 k1)) := fun w h => ⟨cell_at (o := 18) (HR.out w h) rfl, cell_at (o := 11) (HR.out w h) rfl⟩
        clear bm hw3 hbM rm
        refine wp_region_held_drew (S := (fun w' => w'.cell? ⟨W.heap.size, 18, none⟩ = some (.slice A2 n2 k2) ∧ w'.cell? ⟨W.heap.size, 11, none⟩ = some (.slice A1 n1 k1))) (by kernel_rfl) ?_ (fun hHeld => ?_)
        · (try dsimp only); (first | assumption | exact HSS.out _ (by assumption))
        refine wpAnyH_take (i := 0) (oi := ⟨_, _, _, _, _, _⟩) (v := ?_) rfl (by kernel_rfl) (by kernel_rfl) (by kernel_rfl) (fun _ _ _ h => h) (Or.inl ⟨by rfl, ?_⟩) (by assumption) ?_
        rotate_left
        · (intro wS hSw; (try dsimp only at hSw); go_simp <;> with_reducible rfl)
        try simp only [Act.put, List.setIfInBounds_toArray, List.set_cons_zero, List.set_cons_succ]
        refine wpAnyH_take (i := 1) (oi := ⟨_, _, _, _, _, _⟩) (v := ?_) rfl (by kernel_rfl) (by kernel_rfl) (by kernel_rfl) (fun _ _ _ h => h) (Or.inl ⟨by rfl, ?_⟩) (by assumption) ?_
        rotate_left
        · (intro wS hSw; (try dsimp only at hSw); go_simp <;> with_reducible rfl)
        try simp only [Act.put, List.setIfInBounds_toArray, List.set_cons_zero, List.set_cons_succ]
        refine wpAnyH_take (i := 3) (oi := ⟨_, _, _, _, _, _⟩) (v := ?_) rfl (by kernel_rfl) (by kernel_rfl) (by kernel_rfl) (fun _ _ _ h => h) (Or.inl ⟨by rfl, ?_⟩) (by assumption) ?_
        rotate_left
        · (intro wS hSw; (try dsimp only at hSw); go_simp <;> with_reducible rfl)
        try simp only [Act.put, List.setIfInBounds_toArray, List.set_cons_zero, List.set_cons_succ]
        refine wpAnyH_take (i := 4) (oi := ⟨_, _, _, _, _, _⟩) (v := ?_) rfl (by kernel_rfl) (by kernel_rfl) (by kernel_rfl) (fun _ _ _ h => h) (Or.inl ⟨by rfl, ?_⟩) (by assumption) ?_
        rotate_left
        · (intro wS hSw; (try dsimp only at hSw); go_simp <;> with_reducible rfl)
        try simp only [Act.put, List.setIfInBounds_toArray, List.set_cons_zero, List.set_cons_succ]
        refine wpAnyH_take (i := 5) (oi := ⟨_, _, _, _, _, _⟩) (v := ?_) rfl (by kernel_rfl) (by kernel_rfl) (by kernel_rfl) (fun _ _ _ h => h) (Or.inl ⟨by rfl, ?_⟩) (by assumption) ?_
        rotate_left
        · (intro wS hSw; (try dsimp only at hSw); go_simp <;> with_reducible rfl)
        try simp only [Act.put, List.setIfInBounds_toArray, List.set_cons_zero, List.set_cons_succ]
        refine wpAnyH_ready (rs := [2]) (by kernel_rfl) (by simp) ?_
        refine AllReadyH.cons (o := ⟨_, _, _, _, _, _⟩) rfl (fun K hK => ?_) AllReadyH.nil
        go_simp
        (first | (go_at_call 6; (with_reducible refine (CL2.out _ hc0).mono ?_); rintro e w4 ⟨A4, c4, rfl, hl4, b4⟩; have hc1 := acc hc0 b4; have hd1 := acc hd0 b4; have HL4 := Lib.hid hl4; clear hl4 b4) | (go_at_call 6; (with_reducible refine (CL1.out _ hc1).mono ?_); rintro e w5 ⟨A5, c5, rfl, hl5, b5⟩; have hc2 := acc hc1 b5; have hd2 := acc hd1 b5; have HL4b := Lib.hid (HL4.out.below b5); have HL5 := Lib.hid hl5; have rm5 := RM.out _ hd2; have m18 := cell_at (o := 18) rm5 rfl; have m11 := cell_at (o := 11) rm5 rfl; have fr18 := frozen_at (o := 18) rm5; have fr11 := frozen_at (o := 11) rm5; clear hl5 b5 rm5))
        go_wp2_with fail
        refine hK.out _ _ (by (try dsimp only); (first | assumption | exact HSS.out _ (by assumption))) (fun hHeld => ?_)
        clear hK K
        try simp only [Act.put, List.setIfInBounds_toArray, List.set_cons_zero, List.set_cons_succ]
        refine wpAnyH_take (i := 7) (oi := ⟨_, _, _, _, _, _⟩) (v := ?_) rfl (by kernel_rfl) (by kernel_rfl) (by kernel_rfl) (fun _ _ _ h => h) (Or.inl ⟨by rfl, ?_⟩) (by assumption) ?_
        rotate_left
        · (intro wS hSw; (try dsimp only at hSw); go_simp <;> with_reducible rfl)
        try simp only [Act.put, List.setIfInBounds_toArray, List.set_cons_zero, List.set_cons_succ]
        refine wpAnyH_ready (rs := [6]) (by kernel_rfl) (by simp) ?_
        refine AllReadyH.cons (o := ⟨_, _, _, _, _, _⟩) rfl (fun K hK => ?_) AllReadyH.nil
        go_simp
        (first | (go_at_call 6; (with_reducible refine (CL2.out _ hc0).mono ?_); rintro e w4 ⟨A4, c4, rfl, hl4, b4⟩; have hc1 := acc hc0 b4; have hd1 := acc hd0 b4; have HL4 := Lib.hid hl4; clear hl4 b4) | (go_at_call 6; (with_reducible refine (CL1.out _ hc1).mono ?_); rintro e w5 ⟨A5, c5, rfl, hl5, b5⟩; have hc2 := acc hc1 b5; have hd2 := acc hd1 b5; have HL4b := Lib.hid (HL4.out.below b5); have HL5 := Lib.hid hl5; have rm5 := RM.out _ hd2; have m18 := cell_at (o := 18) rm5 rfl; have m11 := cell_at (o := 11) rm5 rfl; have fr18 := frozen_at (o := 18) rm5; have fr11 := frozen_at (o := 11) rm5; clear hl5 b5 rm5))
        go_wp2_with fail
        refine hK.out _ _ (by (try dsimp only); (first | assumption | exact HSS.out _ (by assumption))) (fun hHeld => ?_)
        clear hK K
        try simp only [Act.put, List.setIfInBounds_toArray, List.set_cons_zero, List.set_cons_succ]
        refine wpAnyH_ready (rs := [8]) (by kernel_rfl) (by simp) ?_
        refine AllReadyH.cons (o := ⟨_, _, _, _, _, _⟩) rfl (fun K hK => ?_) AllReadyH.nil
        go_simp
        refine hK.out _ _ (by (try dsimp only); exact HSS.out _ (hc2.setCell hbM1 _)) (fun hHeld => ?_)
        clear hK K
        try simp only [Act.put, List.setIfInBounds_toArray, List.set_cons_zero, List.set_cons_succ]
        refine wpAnyH_take (i := 9) (oi := ⟨_, _, _, _, _, _⟩) (v := ?_) rfl (by kernel_rfl) (by kernel_rfl) (by kernel_rfl) (fun _ _ _ h => h) (Or.inl ⟨by rfl, ?_⟩) (by assumption) ?_
        rotate_left
        · (intro wS hSw; (try dsimp only at hSw); go_simp <;> with_reducible rfl)
        try simp only [Act.put, List.setIfInBounds_toArray, List.set_cons_zero, List.set_cons_succ]
        refine wpAnyH_take (i := 10) (oi := ⟨_, _, _, _, _, _⟩) (v := ?_) rfl (by kernel_rfl) (by kernel_rfl) (by kernel_rfl) (fun _ _ _ h => h) (Or.inl ⟨by rfl, ?_⟩) (by assumption) ?_
        rotate_left
        · (intro wS hSw; (try dsimp only at hSw); go_simp <;> with_reducible rfl)
        try simp only [Act.put, List.setIfInBounds_toArray, List.set_cons_zero, List.set_cons_succ]
        refine wpAnyH_ready (rs := [11]) (by kernel_rfl) (by simp) ?_
        refine AllReadyH.cons (o := ⟨_, _, _, _, _, _⟩) rfl (fun K hK => ?_) AllReadyH.nil
        go_simp
        refine hK.out _ _ (by (try dsimp only); exact HSS.out _ ((hc2.setCell hbM1 _).setCell hbM1 _)) (fun hHeld => ?_)
        clear hK K
        try simp only [Act.put, List.setIfInBounds_toArray, List.set_cons_zero, List.set_cons_succ]
        refine wpAnyH_done (by kernel_rfl) ?_ _
        have rm5 := RM.out _ hd2
        obtain ⟨V, hV⟩ : ∃ V, ((w5.setCell ⟨bM, 18, none⟩ (.slice A4 n2 c4)).setCell ⟨bM, 11, none⟩ (.slice A5 n1 c5)) = V := ⟨_, rfl⟩
        have HBV : Hid (Below (W.alloc (.cells (l.cells (.slice A1 n1 k1) (.slice A2 n2 k2)) 32)).heap.size (W.alloc (.cells (l.cells (.slice A1 n1 k1) (.slice A2 n2 k2)) 32)) V) := by rw [← hV]; exact (hc2.setCell hbM1 _).setCell hbM1 _
        have hrm : V.heap[bM]? = some (.cells (l.cells (.slice A5 n1 c5) (.slice A4 n2 c4)) 32) := by rw [← hV]; exact heap_set (o := 11) _ (heap_set (o := 18) _ rm5)
        have hL4 : Lent w3.drew.heap.size V A4 c4 n2 l.li := by rw [← hV]; exact (HL4b.out.set (by exact hbM3) _).set (by exact hbM3) _
        have hL5 : ∃ K, Lent K V A5 c5 n1 l.ti := ⟨_, by rw [← hV]; exact (HL5.out.set (by exact Nat.lt_of_lt_of_le hbM3 hd1.size) _).set (by exact Nat.lt_of_lt_of_le hbM3 hd1.size) _⟩
        rw [hV]
        obtain ⟨K5, hL5⟩ := hL5
        have HRV : Hid (∀ w, Below V.heap.size V w → w.heap[W.heap.size]? = some (.cells (l.cells (.slice A1 n1 k1) (.slice A2 n2 k2)) 32) ∧ w.heap[bM]? = some (.cells (l.cells (.slice A5 n1 c5) (.slice A4 n2 c4)) 32)) := fun w h => ⟨HR.out w (acc HBV.out h), (h.block _ (lt_of_heap hrm)).trans hrm⟩
        have HCV : Hid (∀ w, Below V.heap.size V w → w.cell? ⟨W.heap.size, 18, none⟩ = some (.slice A2 n2 k2) ∧ w.cell? ⟨W.heap.size, 11, none⟩ = some (.slice A1 n1 k1) ∧ w.cell? ⟨bM, 18, none⟩ = some (.slice A4 n2 c4) ∧ w.cell? ⟨bM, 11, none⟩ = some (.slice A5 n1 c5)) := fun w h => ⟨cell_at (o := 18) (HRV.out w h).1 rfl, cell_at (o := 11) (HRV.out w h).1 rfl, cell_at (o := 18) (HRV.out w h).2 rfl, cell_at (o := 11) (HRV.out w h).2 rfl⟩
        have HSV : Hid (∀ w, Below V.heap.size V w → SlAt w (.slice A1 n1 k1) l.ti ∧ SlAt w (.slice A2 n2 k2) l.li) := fun w h => HSL.out w (acc HBV.out h)
        have CP : Hid (∀ w, Below V.heap.size V w → Calls Tryz.prog 7 #[.agg (l.cells (.slice A5 n1 c5) (.slice A4 n2 c4))] w fun e w' => e = .returned (.tuple #[.string ⟨#[]⟩, .bool false]) ∧ Below w.heap.size w w') := fun w h => CP0.out w _ _ (hL5.below h).slAt (hL4.below h).slAt
        have CR : Hid (∀ w, Below V.heap.size V w → Calls Tryz.prog 9 #[.agg (l.cells (.slice A5 n1 c5) (.slice A4 n2 c4))] w fun e w' => e = .returned (.bool false) ∧ Below w.heap.size w w') := fun w h => CR0.out w _ _ (hL5.below h).slAt (hL4.below h).slAt
        have CD : Hid (∀ w, Below V.heap.size V w → Calls Tryz.prog 8 #[.agg (l.cells (.slice A1 n1 k1) (.slice A2 n2 k2))] w fun e w' => e = .returned (.bool false) ∧ Below w.heap.size w w') := fun w h => CD0.out w _ _ (HSV.out w h).1 (HSV.out w h).2
        have CS2 : Hid (∀ w, Below V.heap.size V w → Calls Tryz.prog 11 #[.slice A4 n2 c4, (.slice A2 n2 k2)] w fun e w' => e = .returned (.bool true) ∧ Below w.heap.size w w') := fun w h => staysItems_any A4 c4 n2 _ _ l.li w (hL4.below h) (HSV.out w h).2 (by have := HL12.out; omega)
        have CS1 : Hid (∀ w, Below V.heap.size V w → Calls Tryz.prog 11 #[.slice A5 n1 c5, (.slice A1 n1 k1)] w fun e w' => e = .returned (.bool true) ∧ Below w.heap.size w w') := fun w h => staysItems_any A5 c5 n1 _ _ l.ti w (hL5.below h) (HSV.out w h).1 (by have := HL12.out; omega)
        have D5 : Hid (Below V.heap.size V V) := Below.refl _ _
        have hszM : (Tryz.prog.info? 32).map (·.size) = some (l.cells (.slice A5 n1 c5) (.slice A4 n2 c4)).size := hszl
        clear rm5 hV hrm hL4 hL5 hbM3 hc0 hc1 hc2 hd0 hd1 hd2 m18 m11 fr18 fr11 HSS HL4 HL4b HL5 HB3 hHeld hold hone CP0 CR0 CD0 CL1 CL2 RM
        go_wp2_with (first
          | (with_reducible (show wpList _ _ _ (⟨some _, Op.load _ (Operand.tmp 5), _, _, _, _⟩ :: _) _ _); go_must (refine wpList_load_rowH (by first | rfl | kernel_rfl) 32 (.tmp 5) rfl bM rfl 32 (l.cells (.slice A5 n1 c5) (.slice A4 n2 c4)) (0, 0) _ (HRV.out _ (by first | exact D9.out | exact D8.out | exact D7.out | exact D6.out | exact D5.out)).2 Tryz.underlying32 rfl hszM ?_))
          | (with_reducible (show wpList _ _ _ (⟨some 47, Op.load _ (Operand.tmp 2), _, _, _, _⟩ :: _) _ _); go_must (refine wpList_load_row rfl 32 (.tmp 2) rfl W.heap.size rfl 32 (l.cells (.slice A1 n1 k1) (.slice A2 n2 k2)) (0, 0) _ (HRV.out _ (by first | exact D9.out | exact D8.out | exact D7.out | exact D6.out | exact D5.out)).1 Tryz.underlying32 rfl hszl ?_))
          | (go_at_call 7; ((with_reducible refine (CP.out _ D5.out).mono ?_); rintro e w6 ⟨rfl, hb⟩; have D6 : Hid (Below V.heap.size V w6) := acc D5.out hb; clear hb))
          | (go_at_call 8; ((with_reducible refine (CD.out _ D6.out).mono ?_); rintro e w7 ⟨rfl, hb⟩; have D7 : Hid (Below V.heap.size V w7) := acc D6.out hb; clear hb))
          | (go_at_call 9; ((with_reducible refine (CR.out _ D7.out).mono ?_); rintro e w8 ⟨rfl, hb⟩; have D8 : Hid (Below V.heap.size V w8) := acc D7.out hb; clear hb; obtain ⟨y1, y2, y3, y4⟩ := HCV.out _ D8.out))
          | (go_at_call 11; ((with_reducible refine (CS2.out _ D8.out).mono ?_); rintro e w10 ⟨rfl, hb⟩; have D10 : Hid (Below V.heap.size V w10) := acc D8.out hb; clear hb; obtain ⟨z1, z2, z3, z4⟩ := HCV.out _ D10.out))
          | (go_at_call 11; ((with_reducible refine (CS1.out _ D10.out).mono ?_); rintro e w11 ⟨rfl, hb⟩; have D11 : Hid (Below V.heap.size V w11) := acc D10.out hb; clear hb)))
        have hbb : Below (w11.heap.size + 1) (w11.alloc (.cells #[.slice none 0 0, .slice none 0 0, .slice none 0 0, .slice none 0 0, .slice none 0 0, .slice none 0 0, .slice none 0 0, .slice none 0 0, .slice none 0 0, .slice none 0 0, .slice none 0 0, .slice none 0 0, .slice none 0 0, .slice none 0 0] 49)) ((w11.alloc (.cells #[.slice none 0 0, .slice none 0 0, .slice none 0 0, .slice none 0 0, .slice none 0 0, .slice none 0 0, .slice none 0 0, .slice none 0 0, .slice none 0 0, .slice none 0 0, .slice none 0 0, .slice none 0 0, .slice none 0 0, .slice none 0 0] 49)).alloc (.cells #[.string ⟨#[]⟩, .string b] 9)) := (Below.refl _ _).alloc (by simp) _
        have KB0 := Lib.hid (KB.start hbb)
        have HBW : Hid (Below (W.alloc (.cells (l.cells (.slice A1 n1 k1) (.slice A2 n2 k2)) 32)).heap.size (W.alloc (.cells (l.cells (.slice A1 n1 k1) (.slice A2 n2 k2)) 32)) ((w11.alloc (.cells #[.slice none 0 0, .slice none 0 0, .slice none 0 0, .slice none 0 0, .slice none 0 0, .slice none 0 0, .slice none 0 0, .slice none 0 0, .slice none 0 0, .slice none 0 0, .slice none 0 0, .slice none 0 0, .slice none 0 0, .slice none 0 0] 49)).alloc (.cells #[.string ⟨#[]⟩, .string b] 9))) := (acc (acc HBV.out D11.out) ((Below.refl _ _).alloc (Nat.le_refl _) (.cells #[.slice none 0 0, .slice none 0 0, .slice none 0 0, .slice none 0 0, .slice none 0 0, .slice none 0 0, .slice none 0 0, .slice none 0 0, .slice none 0 0, .slice none 0 0, .slice none 0 0, .slice none 0 0, .slice none 0 0, .slice none 0 0] 49))).trans ((Below.refl _ _).alloc (by have := (acc HBV.out D11.out).size; simp at this ⊢; omega) _)
        have HGB : Hid (∀ x, x ∈ [w11.heap.size] → (W.alloc (.cells (l.cells (.slice A1 n1 k1) (.slice A2 n2 k2)) 32)).heap.size ≤ x) := fun x hx => by obtain rfl := List.mem_singleton.1 hx; exact (acc HBV.out D11.out).size
        have hrl : ((w11.alloc (.cells #[.slice none 0 0, .slice none 0 0, .slice none 0 0, .slice none 0 0, .slice none 0 0, .slice none 0 0, .slice none 0 0, .slice none 0 0, .slice none 0 0, .slice none 0 0, .slice none 0 0, .slice none 0 0, .slice none 0 0, .slice none 0 0] 49)).alloc (.cells #[.string ⟨#[]⟩, .string b] 9)).heap[w11.heap.size + 1]? = some (.cells #[.string ⟨#[]⟩, .string b] 9) := by
          have h := heap_alloc_new (w11.alloc (.cells #[.slice none 0 0, .slice none 0 0, .slice none 0 0, .slice none 0 0, .slice none 0 0, .slice none 0 0, .slice none 0 0, .slice none 0 0, .slice none 0 0, .slice none 0 0, .slice none 0 0, .slice none 0 0, .slice none 0 0, .slice none 0 0] 49)) (.cells #[.string ⟨#[]⟩, .string b] 9)
          simpa using h
        have HRL : Hid (∀ w, Touch [w11.heap.size] ((w11.alloc (.cells #[.slice none 0 0, .slice none 0 0, .slice none 0 0, .slice none 0 0, .slice none 0 0, .slice none 0 0, .slice none 0 0, .slice none 0 0, .slice none 0 0, .slice none 0 0, .slice none 0 0, .slice none 0 0, .slice none 0 0, .slice none 0 0] 49)).alloc (.cells #[.string ⟨#[]⟩, .string b] 9)) w → w.heap[W.heap.size]? = some (.cells (l.cells (.slice A1 n1 k1) (.slice A2 n2 k2)) 32) ∧ w.cell? ⟨w11.heap.size + 1, 0, none⟩ = some (.string ⟨#[]⟩) ∧ w.cell? ⟨w11.heap.size + 1, 1, none⟩ = some (.string b) ∧ SlAt w (.slice A1 n1 k1) l.ti ∧ SlAt w (.slice A2 n2 k2) l.li) := fun w h => by
          have e := (h.block (w11.heap.size + 1) (lt_of_heap hrl) (by simp)).trans hrl
          have hw := Touch.acc HBW.out h HGB.out
          exact ⟨HR.out w hw, cell_at (o := 0) e rfl, cell_at (o := 1) e rfl, HSL.out w hw⟩
        obtain ⟨gb, hgb⟩ : ∃ n, w11.heap.size = n := ⟨_, rfl⟩
        obtain ⟨w0, hw0⟩ : ∃ w, ((w11.alloc (.cells #[.slice none 0 0, .slice none 0 0, .slice none 0 0, .slice none 0 0, .slice none 0 0, .slice none 0 0, .slice none 0 0, .slice none 0 0, .slice none 0 0, .slice none 0 0, .slice none 0 0, .slice none 0 0, .slice none 0 0, .slice none 0 0] 49)).alloc (.cells #[.string ⟨#[]⟩, .string b] 9)) = w := ⟨_, rfl⟩
        rw [hw0] at KB0 HBW HRL ⊢
        rw [hgb] at KB0 HGB HRL ⊢
        clear hbb hrl hw0 hgb HCV HRV HSV CP CR CD CS1 CS2 D5 HBV
        go_loopg [99] 3 (fun z s99 wx => ∃ (i : Nat) (es : List (Value × List Item)), i + z = 3 ∧ i ≤ 2 ∧ s99 = .int .i64 (i : Nat) ∧ Hid (KB w0 wx gb es [] [] ∧ es.length ≤ 2 * i ∧ ∀ x ∈ es, x.2.length ≤ 90000))
        case atStart => exact ⟨0, [], by omega, by omega, rfl, KB0.out, by simp, by simp⟩
        case round =>
          obtain ⟨i, es, hiz, hi2, rfl, HB⟩ := hrel
          by_cases hi : i < 2
          · have bi : decide ((i : Int) < 2) = true := by simp; omega
            have bj : (i : Int) < 2 := by omega
            obtain ⟨c, hc, hcs⟩ : ∃ c, wr.cell? ⟨gb + 1, i, none⟩ = some (.string c) ∧ c.size ≤ 9223372036854775807 := by
              obtain ⟨-, y0, y1, -⟩ := HRL.out wr HB.out.1.touch
              have hc : i = 0 ∨ i = 1 := by omega
              rcases hc with rfl | rfl
              · exact ⟨_, y0, HBS.out.1⟩
              · exact ⟨_, y1, HBS.out.2⟩
            have cg := fun w => gl_any c w hcs
            have cd := fun w => dgl_any c w hcs
            have hml := getL_lens c
            clear hcs
            cases de : (c.toList == ([] : List UInt8)) with
            | false =>
              obtain ⟨m, hm⟩ : ∃ m, (getL c).getD ZL = m := ⟨_, rfl⟩
              obtain ⟨is, his⟩ : ∃ is, (getL c).isSome = is := ⟨_, rfl⟩
              rw [hm, his] at cg cd
              rw [hm] at hml
              have CG := Lib.hid cg
              have CD := Lib.hid cd
              have HML := Lib.hid hml
              clear cg cd hm his hml
              go_upto_region 14 with (first
                | (go_at_call 12; ((with_reducible refine (CG.out _).mono ?_); rintro e w12 ⟨hb12, A7, c7, A8, c8, rfl, ho7, ho8, hap⟩; have HB12 := Lib.hid hb12; have HO7 := Lib.hid ho7; have HO8 := Lib.hid ho8; have HAP := Lib.hid hap; clear hb12 ho7 ho8 hap; have hone : Hid ((m.cells (.slice A7 m.ti.length c7) (.slice A8 m.li.length c8)).all (·.oneCell') = true) := (by show _ = _; first | kernel_rfl | simp [Value.oneCell']); have hold : Hid (ZC.size = (m.cells (.slice A7 m.ti.length c7) (.slice A8 m.li.length c8)).size) := rfl; have hszX : (Tryz.prog.info? 32).map (·.size) = some (m.cells (.slice A7 m.ti.length c7) (.slice A8 m.li.length c8)).size := hszl))
                | (with_reducible (show wpList _ _ _ (⟨none, Op.store _ (Operand.tmp 12) _, _, _, _, _⟩ :: _) _ _); go_must (refine wpList_store_row rfl 32 (.tmp 12) (.tmp 106) rfl w12.heap.size (m.cells (.slice A7 m.ti.length c7) (.slice A8 m.li.length c8)) rfl rfl 32 ZC (heap_alloc_new w12 _) hszX hold.out hone.out ?_)))
              obtain ⟨ry, by_⟩ := new_rowL w12 (m.cells (.slice A7 m.ti.length c7) (.slice A8 m.li.length c8))
              have kb1 := (HB.out.1.push2 HB12.out HO8.out HO7.out HAP.out).out_ (Q := [w12.heap.size]) by_ (fun q hq => by obtain rfl := List.mem_singleton.1 hq; exact ⟨Nat.le_refl _, lt_of_heap ry⟩)
              obtain ⟨bY, hbY⟩ : ∃ n, w12.heap.size = n := ⟨_, rfl⟩
              obtain ⟨wa, hwa⟩ : ∃ w, ((w12.alloc (.cells ZC 32)).setRow w12.heap.size (m.cells (.slice A7 m.ti.length c7) (.slice A8 m.li.length c8))) = w := ⟨_, rfl⟩
              rw [hwa] at ry kb1 ⊢
              rw [hbY] at ry kb1 ⊢
              have KB1 := Lib.hid kb1
              clear by_ hwa hbY hone hold hszX HB12 HO7 HO8 HAP kb1
              go_upto_region 15 with (first
                | (go_at_call 13; ((with_reducible refine (CD.out _).mono ?_); rintro e w13 ⟨hb13, A9, c9, A10, c10, rfl, ho9, ho10⟩; have HB13 := Lib.hid hb13; have HO9 := Lib.hid ho9; have HO10 := Lib.hid ho10; clear hb13 ho9 ho10; have hone : Hid ((m.cells (.slice A9 m.ti.length c9) (.slice A10 m.li.length c10)).all (·.oneCell') = true) := (by show _ = _; first | kernel_rfl | simp [Value.oneCell']); have hold : Hid (ZC.size = (m.cells (.slice A9 m.ti.length c9) (.slice A10 m.li.length c10)).size) := rfl; have hszX : (Tryz.prog.info? 32).map (·.size) = some (m.cells (.slice A9 m.ti.length c9) (.slice A10 m.li.length c10)).size := hszl))
                | (with_reducible (show wpList _ _ _ (⟨none, Op.store _ (Operand.tmp 14) _, _, _, _, _⟩ :: _) _ _); go_must (refine wpList_store_row rfl 32 (.tmp 14) (.tmp 111) rfl w13.heap.size (m.cells (.slice A9 m.ti.length c9) (.slice A10 m.li.length c10)) rfl rfl 32 ZC (heap_alloc_new w13 _) hszX hold.out hone.out ?_)))
              obtain ⟨rz, bz⟩ := new_rowL w13 (m.cells (.slice A9 m.ti.length c9) (.slice A10 m.li.length c10))
              have kb2 := (KB1.out.out_ (Q := blk (.slice A9 m.ti.length c9) ++ blk (.slice A10 m.li.length c10)) HB13.out (fun q hq => (List.mem_append.1 hq).elim (fun z => HO9.out.lt q (mem_blk.1 z)) (fun z => HO10.out.lt q (mem_blk.1 z)))).out_ (Q := [w13.heap.size]) bz (fun q hq => by obtain rfl := List.mem_singleton.1 hq; exact ⟨Nat.le_refl _, lt_of_heap rz⟩)
              have o9 := own_mono (own_step HO9.out bz) (Nat.zero_le _)
              have o10 := own_mono (own_step HO10.out bz) (Nat.zero_le _)
              have ry1 := ((acc HB13.out bz).block _ (lt_of_heap ry)).trans ry
              obtain ⟨bZ, hbZ⟩ : ∃ n, w13.heap.size = n := ⟨_, rfl⟩
              obtain ⟨wb, hwb⟩ : ∃ w, ((w13.alloc (.cells ZC 32)).setRow w13.heap.size (m.cells (.slice A9 m.ti.length c9) (.slice A10 m.li.length c10))) = w := ⟨_, rfl⟩
              rw [hwb] at ry1 rz kb2 o9 o10 ⊢
              rw [hbZ] at rz kb2 ⊢
              have KB2 : Hid (KB w0 wb gb es [((.slice A8 m.li.length c8), m.li), ((.slice A7 m.ti.length c7), m.ti)] ([bZ] ++ ((blk (.slice A9 m.ti.length c9) ++ blk (.slice A10 m.li.length c10)) ++ ([bY] ++ [])))) := kb2
              have c18 := cell_at (o := 18) ry1 rfl
              have CB := Lib.hid (KB2.out.book rfl (by have := HB.out.2.1; omega) (by have := HML.out; omega))
              clear bz hwb hbZ hone hold hszX HB13 HO9 HO10 kb2 KB1 ry
              go_upto_region 16 with (go_at_call 14; ((with_reducible refine CB.out.mono ?_); rintro e w14 ⟨rfl, kb3, G, tG, hG⟩))
              have ry2 := (tG.block bY (lt_of_heap ry1) (hG bY (by simp))).trans ry1
              have rz2 := (tG.block bZ (lt_of_heap rz) (hG bZ (by simp))).trans rz
              have p9 := tG.row o9 (fun q hq => hG q (by simp [mem_blk.2 hq]))
              have p10 := tG.row o10 (fun q hq => hG q (by simp [mem_blk.2 hq]))
              have c11 := cell_at (o := 11) ry2 rfl
              have CB2 := Lib.hid (kb3.book rfl (by have := HB.out.2.1; simp; omega) (by have := HML.out; omega))
              clear ry1 rz o9 o10 c18 CB KB2 kb3 tG hG
              go_upto_region 17 with (go_at_call 14; ((with_reducible refine CB2.out.mono ?_); rintro e w15 ⟨rfl, kb4, G2, tG2, hG2⟩))
              have ry3 := (tG2.block bY (lt_of_heap ry2) (hG2 bY (by simp))).trans ry2
              have rz3 := (tG2.block bZ (lt_of_heap rz2) (hG2 bZ (by simp))).trans rz2
              have s9 := slAt_own (tG2.row p9 (fun q hq => hG2 q (by simp [mem_blk.2 hq])))
              have s10 := slAt_own (tG2.row p10 (fun q hq => hG2 q (by simp [mem_blk.2 hq])))
              have s7 := slAt_own (kb4.row (A := A7) (c := c7) (n := m.ti.length) (l := m.ti) (by simp))
              have s8 := slAt_own (kb4.row (A := A8) (c := c8) (n := m.li.length) (l := m.li) (by simp))
              have KB4 := Lib.hid kb4
              have HRB : Hid (∀ w, Below w15.heap.size w15 w → w.heap[bY]? = some (.cells (m.cells (.slice A7 m.ti.length c7) (.slice A8 m.li.length c8)) 32) ∧ w.heap[bZ]? = some (.cells (m.cells (.slice A9 m.ti.length c9) (.slice A10 m.li.length c10)) 32) ∧ w.heap[W.heap.size]? = some (.cells (l.cells (.slice A1 n1 k1) (.slice A2 n2 k2)) 32)) := fun w h => ⟨(h.block _ (lt_of_heap ry3)).trans ry3, (h.block _ (lt_of_heap rz3)).trans rz3, (HRL.out w (KB4.out.below h).touch).1⟩
              have K0 : Hid (Below w15.heap.size w15 w15) := Below.refl _ _
              have hszX : (Tryz.prog.info? 32).map (·.size) = some (m.cells (.slice A7 m.ti.length c7) (.slice A8 m.li.length c8)).size := hszl
              have hszY : (Tryz.prog.info? 32).map (·.size) = some (m.cells (.slice A9 m.ti.length c9) (.slice A10 m.li.length c10)).size := hszl
              have CS : Hid (∀ w, Below w15.heap.size w15 w → Calls Tryz.prog 15 #[.agg (m.cells (.slice A7 m.ti.length c7) (.slice A8 m.li.length c8)), .agg (m.cells (.slice A9 m.ti.length c9) (.slice A10 m.li.length c10))] w fun e w' => e = .returned (.bool true) ∧ Below w.heap.size w w') := fun w h => same_self m _ _ _ _ w (s7.below h) (s8.below h) (s9.below h) (s10.below h)
              clear ry2 rz2 p9 p10 c11 CB2 kb4 tG2 hG2 ry3 rz3 s7 s8 s9 s10
              go_wp2_with (first
                | (with_reducible (show wpList _ _ _ (⟨some 126, Op.load _ (Operand.tmp 12), _, _, _, _⟩ :: _) _ _); go_must (refine wpList_load_rowH (by kernel_rfl) 32 (.tmp 12) rfl bY rfl 32 (m.cells (.slice A7 m.ti.length c7) (.slice A8 m.li.length c8)) (0, 0) _ (HRB.out _ (by first | exact K2.out | exact K1.out | exact K0.out)).1 Tryz.underlying32 rfl hszX ?_))
                | (with_reducible (show wpList _ _ _ (⟨some 127, Op.load _ (Operand.tmp 14), _, _, _, _⟩ :: _) _ _); go_must (refine wpList_load_rowH (by kernel_rfl) 32 (.tmp 14) rfl bZ rfl 32 (m.cells (.slice A9 m.ti.length c9) (.slice A10 m.li.length c10)) (0, 0) _ (HRB.out _ (by first | exact K2.out | exact K1.out | exact K0.out)).2.1 Tryz.underlying32 rfl hszY ?_))
                | (go_at_call 15; ((with_reducible refine (CS.out _ K0.out).mono ?_); rintro e w16 ⟨rfl, hb16⟩; have K1 := Lib.hid (acc K0.out hb16); clear hb16)))
              go_roundg (gk - 1)
              case measure => omega
              case rel => exact ⟨i + 1, _, by omega, by omega, by go_num, (KB4.out.below K1.out).free, by have := HB.out.2.1; simp; omega, fun x hx => es_lens HB.out.2.2 hx (by have := HML.out; omega) (by have := HML.out; omega)⟩
            | true =>
              have hg : getL c = none := by
                obtain rfl : c = ByteArray.empty := toList_inj ((beq_iff_eq.1 de).trans (by rw [Lib.toList_data]; rfl))
                exact getL_nothing
              rw [hg] at cg cd hml
              have CG : Hid (∀ w, Calls Tryz.prog 12 #[.string c] w (GLQ w ZL false)) := cg
              have CD : Hid (∀ w, Calls Tryz.prog 13 #[.string c] w (GLP w ZL false)) := cd
              have HML : Hid (ZL.ti.length ≤ 40 ∧ ZL.li.length ≤ 40) := hml
              clear cg cd hml hg
              generalize ZL = m at CG CD HML
              go_upto_region 14 with (first
                | (go_at_call 12; ((with_reducible refine (CG.out _).mono ?_); rintro e w12 ⟨hb12, A7, c7, A8, c8, rfl, ho7, ho8, hap⟩; have HB12 := Lib.hid hb12; have HO7 := Lib.hid ho7; have HO8 := Lib.hid ho8; have HAP := Lib.hid hap; clear hb12 ho7 ho8 hap; have hone : Hid ((m.cells (.slice A7 m.ti.length c7) (.slice A8 m.li.length c8)).all (·.oneCell') = true) := (by show _ = _; first | kernel_rfl | simp [Value.oneCell']); have hold : Hid (ZC.size = (m.cells (.slice A7 m.ti.length c7) (.slice A8 m.li.length c8)).size) := rfl; have hszX : (Tryz.prog.info? 32).map (·.size) = some (m.cells (.slice A7 m.ti.length c7) (.slice A8 m.li.length c8)).size := hszl))
                | (with_reducible (show wpList _ _ _ (⟨none, Op.store _ (Operand.tmp 12) _, _, _, _, _⟩ :: _) _ _); go_must (refine wpList_store_row rfl 32 (.tmp 12) (.tmp 106) rfl w12.heap.size (m.cells (.slice A7 m.ti.length c7) (.slice A8 m.li.length c8)) rfl rfl 32 ZC (heap_alloc_new w12 _) hszX hold.out hone.out ?_)))
              obtain ⟨ry, by_⟩ := new_rowL w12 (m.cells (.slice A7 m.ti.length c7) (.slice A8 m.li.length c8))
              have kb1 := (HB.out.1.push2 HB12.out HO8.out HO7.out HAP.out).out_ (Q := [w12.heap.size]) by_ (fun q hq => by obtain rfl := List.mem_singleton.1 hq; exact ⟨Nat.le_refl _, lt_of_heap ry⟩)
              obtain ⟨bY, hbY⟩ : ∃ n, w12.heap.size = n := ⟨_, rfl⟩
              obtain ⟨wa, hwa⟩ : ∃ w, ((w12.alloc (.cells ZC 32)).setRow w12.heap.size (m.cells (.slice A7 m.ti.length c7) (.slice A8 m.li.length c8))) = w := ⟨_, rfl⟩
              rw [hwa] at ry kb1 ⊢
              rw [hbY] at ry kb1 ⊢
              have KB1 := Lib.hid kb1
              clear by_ hwa hbY hone hold hszX HB12 HO7 HO8 HAP kb1
              go_upto_region 15 with (first
                | (go_at_call 13; ((with_reducible refine (CD.out _).mono ?_); rintro e w13 ⟨hb13, A9, c9, A10, c10, rfl, ho9, ho10⟩; have HB13 := Lib.hid hb13; have HO9 := Lib.hid ho9; have HO10 := Lib.hid ho10; clear hb13 ho9 ho10; have hone : Hid ((m.cells (.slice A9 m.ti.length c9) (.slice A10 m.li.length c10)).all (·.oneCell') = true) := (by show _ = _; first | kernel_rfl | simp [Value.oneCell']); have hold : Hid (ZC.size = (m.cells (.slice A9 m.ti.length c9) (.slice A10 m.li.length c10)).size) := rfl; have hszX : (Tryz.prog.info? 32).map (·.size) = some (m.cells (.slice A9 m.ti.length c9) (.slice A10 m.li.length c10)).size := hszl))
                | (with_reducible (show wpList _ _ _ (⟨none, Op.store _ (Operand.tmp 14) _, _, _, _, _⟩ :: _) _ _); go_must (refine wpList_store_row rfl 32 (.tmp 14) (.tmp 111) rfl w13.heap.size (m.cells (.slice A9 m.ti.length c9) (.slice A10 m.li.length c10)) rfl rfl 32 ZC (heap_alloc_new w13 _) hszX hold.out hone.out ?_)))
              obtain ⟨rz, bz⟩ := new_rowL w13 (m.cells (.slice A9 m.ti.length c9) (.slice A10 m.li.length c10))
              have kb2 := (KB1.out.out_ (Q := blk (.slice A9 m.ti.length c9) ++ blk (.slice A10 m.li.length c10)) HB13.out (fun q hq => (List.mem_append.1 hq).elim (fun z => HO9.out.lt q (mem_blk.1 z)) (fun z => HO10.out.lt q (mem_blk.1 z)))).out_ (Q := [w13.heap.size]) bz (fun q hq => by obtain rfl := List.mem_singleton.1 hq; exact ⟨Nat.le_refl _, lt_of_heap rz⟩)
              have o9 := own_mono (own_step HO9.out bz) (Nat.zero_le _)
              have o10 := own_mono (own_step HO10.out bz) (Nat.zero_le _)
              have ry1 := ((acc HB13.out bz).block _ (lt_of_heap ry)).trans ry
              obtain ⟨bZ, hbZ⟩ : ∃ n, w13.heap.size = n := ⟨_, rfl⟩
              obtain ⟨wb, hwb⟩ : ∃ w, ((w13.alloc (.cells ZC 32)).setRow w13.heap.size (m.cells (.slice A9 m.ti.length c9) (.slice A10 m.li.length c10))) = w := ⟨_, rfl⟩
              rw [hwb] at ry1 rz kb2 o9 o10 ⊢
              rw [hbZ] at rz kb2 ⊢
              have KB2 : Hid (KB w0 wb gb es [((.slice A8 m.li.length c8), m.li), ((.slice A7 m.ti.length c7), m.ti)] ([bZ] ++ ((blk (.slice A9 m.ti.length c9) ++ blk (.slice A10 m.li.length c10)) ++ ([bY] ++ [])))) := kb2
              have c18 := cell_at (o := 18) ry1 rfl
              have CB := Lib.hid (KB2.out.book rfl (by have := HB.out.2.1; omega) (by have := HML.out; omega))
              clear bz hwb hbZ hone hold hszX HB13 HO9 HO10 kb2 KB1 ry
              go_upto_region 16 with (go_at_call 14; ((with_reducible refine CB.out.mono ?_); rintro e w14 ⟨rfl, kb3, G, tG, hG⟩))
              have ry2 := (tG.block bY (lt_of_heap ry1) (hG bY (by simp))).trans ry1
              have rz2 := (tG.block bZ (lt_of_heap rz) (hG bZ (by simp))).trans rz
              have p9 := tG.row o9 (fun q hq => hG q (by simp [mem_blk.2 hq]))
              have p10 := tG.row o10 (fun q hq => hG q (by simp [mem_blk.2 hq]))
              have c11 := cell_at (o := 11) ry2 rfl
              have CB2 := Lib.hid (kb3.book rfl (by have := HB.out.2.1; simp; omega) (by have := HML.out; omega))
              clear ry1 rz o9 o10 c18 CB KB2 kb3 tG hG
              go_upto_region 17 with (go_at_call 14; ((with_reducible refine CB2.out.mono ?_); rintro e w15 ⟨rfl, kb4, G2, tG2, hG2⟩))
              have ry3 := (tG2.block bY (lt_of_heap ry2) (hG2 bY (by simp))).trans ry2
              have rz3 := (tG2.block bZ (lt_of_heap rz2) (hG2 bZ (by simp))).trans rz2
              have s9 := slAt_own (tG2.row p9 (fun q hq => hG2 q (by simp [mem_blk.2 hq])))
              have s10 := slAt_own (tG2.row p10 (fun q hq => hG2 q (by simp [mem_blk.2 hq])))
              have s7 := slAt_own (kb4.row (A := A7) (c := c7) (n := m.ti.length) (l := m.ti) (by simp))
              have s8 := slAt_own (kb4.row (A := A8) (c := c8) (n := m.li.length) (l := m.li) (by simp))
              have KB4 := Lib.hid kb4
              have HRB : Hid (∀ w, Below w15.heap.size w15 w → w.heap[bY]? = some (.cells (m.cells (.slice A7 m.ti.length c7) (.slice A8 m.li.length c8)) 32) ∧ w.heap[bZ]? = some (.cells (m.cells (.slice A9 m.ti.length c9) (.slice A10 m.li.length c10)) 32) ∧ w.heap[W.heap.size]? = some (.cells (l.cells (.slice A1 n1 k1) (.slice A2 n2 k2)) 32)) := fun w h => ⟨(h.block _ (lt_of_heap ry3)).trans ry3, (h.block _ (lt_of_heap rz3)).trans rz3, (HRL.out w (KB4.out.below h).touch).1⟩
              have K0 : Hid (Below w15.heap.size w15 w15) := Below.refl _ _
              have hszX : (Tryz.prog.info? 32).map (·.size) = some (m.cells (.slice A7 m.ti.length c7) (.slice A8 m.li.length c8)).size := hszl
              have hszY : (Tryz.prog.info? 32).map (·.size) = some (m.cells (.slice A9 m.ti.length c9) (.slice A10 m.li.length c10)).size := hszl
              have CS : Hid (∀ w, Below w15.heap.size w15 w → Calls Tryz.prog 15 #[.agg (m.cells (.slice A7 m.ti.length c7) (.slice A8 m.li.length c8)), .agg (m.cells (.slice A9 m.ti.length c9) (.slice A10 m.li.length c10))] w fun e w' => e = .returned (.bool true) ∧ Below w.heap.size w w') := fun w h => same_self m _ _ _ _ w (s7.below h) (s8.below h) (s9.below h) (s10.below h)
              clear ry2 rz2 p9 p10 c11 CB2 kb4 tG2 hG2 ry3 rz3 s7 s8 s9 s10
              go_wp2_with (first
                | (with_reducible (show wpList _ _ _ (⟨some 126, Op.load _ (Operand.tmp 12), _, _, _, _⟩ :: _) _ _); go_must (refine wpList_load_rowH (by kernel_rfl) 32 (.tmp 12) rfl bY rfl 32 (m.cells (.slice A7 m.ti.length c7) (.slice A8 m.li.length c8)) (0, 0) _ (HRB.out _ (by first | exact K2.out | exact K1.out | exact K0.out)).1 Tryz.underlying32 rfl hszX ?_))
                | (with_reducible (show wpList _ _ _ (⟨some 127, Op.load _ (Operand.tmp 14), _, _, _, _⟩ :: _) _ _); go_must (refine wpList_load_rowH (by kernel_rfl) 32 (.tmp 14) rfl bZ rfl 32 (m.cells (.slice A9 m.ti.length c9) (.slice A10 m.li.length c10)) (0, 0) _ (HRB.out _ (by first | exact K2.out | exact K1.out | exact K0.out)).2.1 Tryz.underlying32 rfl hszY ?_))
                | (go_at_call 15; ((with_reducible refine (CS.out _ K0.out).mono ?_); rintro e w16 ⟨rfl, hb16⟩; have K1 := Lib.hid (acc K0.out hb16); clear hb16)))
              go_roundg (gk - 1)
              case measure => omega
              case rel => exact ⟨i + 1, _, by omega, by omega, by go_num, (KB4.out.below K1.out).free, by have := HB.out.2.1; simp; omega, fun x hx => es_lens HB.out.2.2 hx (by have := HML.out; omega) (by have := HML.out; omega)⟩
          · obtain rfl : i = 2 := by omega
            have bi : decide (((2 : Nat) : Int) < 2) = false := by decide
            have CAP : Hid (∀ w, Below wr.heap.size wr w → Calls Tryz.prog 17 #[.pointer (some ⟨gb, 0, none⟩)] w fun e w' => e = .returned (.bool true) ∧ Touch [gb] w0 w') := fun w h => (HB.out.1.below h).apart (by have := HB.out.2.1; omega) HB.out.2.2
            have hx := (HRL.out wr HB.out.1.touch).1
            have x0 : ∀ o, (wr.alloc o).cell? ⟨W.heap.size, 0, none⟩ = some (.int .i64 l.k) := fun o => cell_at (o := 0) ((Lib.alloc_old _ _ _ (lt_of_heap hx)).trans hx) rfl
            have CN : Hid (∀ w, Calls Tryz.prog 16 #[.int .i64 l.k] w fun e w' => e = .returned (.string (nameT l.k)) ∧ Below w.heap.size w w') := fun w => name_any_ l.k w HK.out.1 HK.out.2
            clear hx
            generalize l.k = kk at *
            by_cases hk : 0 ≤ kk ∧ kk < 17
            · obtain ⟨j, rfl⟩ := Int.eq_ofNat_of_zero_le hk.1
              have hj : j < 17 := by omega
              have e1 : nameT (j : Int) = nameList.getD j ByteArray.empty := by rw [nameT, if_pos hk, Int.toNat_natCast]
              have hc : (wr.alloc (.cells NC 9)).cell? ⟨wr.heap.size, j, none⟩ = some (.string (nameT (j : Int))) := by rw [e1]; exact cell_at (heap_alloc_new wr _) (nc_at j hj)
              have d1 : decide ((j : Int) ≥ 0) = true := by simp
              have d2 : decide ((j : Int) < 17) = true := by simp; omega
              simp only [NC] at hc
              generalize nameT (j : Int) = nm at *
              clear e1 hk
              go_wp2_with (first
                | (go_at_call 16; ((with_reducible refine (CN.out _).mono ?_); rintro e w20 ⟨rfl, hb20⟩; have K20 : Hid (Below wr.heap.size wr w20) := acc ((Below.refl _ _).alloc (Nat.le_refl _) _) hb20; clear hb20))
                | (go_at_call 17; ((with_reducible refine (CAP.out _ K20.out).mono ?_); rintro e w21 ⟨rfl, t21⟩)))
              go_ret
              exact ⟨rfl, UP.out _ (Touch.acc HBW.out t21 HGB.out)⟩
            · have e1 : nameT kk = ⟨#[]⟩ := by rw [nameT, if_neg hk]; rfl
              rw [e1] at CN
              by_cases hn : 0 ≤ kk
              · have d1 : decide (kk ≥ 0) = true := decide_eq_true hn
                have d2 : decide (kk < 17) = false := decide_eq_false (by omega)
                clear e1 hk hn
                go_wp2_with (first
                  | (go_at_call 16; ((with_reducible refine (CN.out _).mono ?_); rintro e w20 ⟨rfl, hb20⟩; have K20 : Hid (Below wr.heap.size wr w20) := acc ((Below.refl _ _).alloc (Nat.le_refl _) _) hb20; clear hb20))
                  | (go_at_call 17; ((with_reducible refine (CAP.out _ K20.out).mono ?_); rintro e w21 ⟨rfl, t21⟩)))
                go_ret
                exact ⟨rfl, UP.out _ (Touch.acc HBW.out t21 HGB.out)⟩
              · have d1 : decide (kk ≥ 0) = false := decide_eq_false hn
                clear e1 hk hn
                go_wp2_with (first
                  | (go_at_call 16; ((with_reducible refine (CN.out _).mono ?_); rintro e w20 ⟨rfl, hb20⟩; have K20 : Hid (Below wr.heap.size wr w20) := acc ((Below.refl _ _).alloc (Nat.le_refl _) _) hb20; clear hb20))
                  | (go_at_call 17; ((with_reducible refine (CAP.out _ K20.out).mono ?_); rintro e w21 ⟨rfl, t21⟩)))
                go_ret
                exact ⟨rfl, UP.out _ (Touch.acc HBW.out t21 HGB.out)⟩
      | some b0 =>
        have hs0 := putL_small hp
        have HGS := Lib.hid (getL_of hF.afB hF.auB hp)
        have HBS : Hid ((b0 : ByteArray).size ≤ 9223372036854775807 ∧ b.size ≤ 9223372036854775807) := ⟨hs0, hb0⟩
        have cp : ∀ w T1 T2, SlAt w T1 l.ti → SlAt w T2 l.li → Calls Tryz.prog 7 #[.agg (l.cells T1 T2)] w (PutPost w l) := fun w T1 T2 a b => lput_any l T1 T2 w hF a b
        have cr : ∀ w T1 T2, SlAt w T1 l.ti → SlAt w T2 l.li → Calls Tryz.prog 9 #[.agg (l.cells T1 T2)] w fun e w' => e = .returned (.bool (putL l).isSome) ∧ Below w.heap.size w w' := fun w T1 T2 a b => lright_any l T1 T2 w hF a b
        have cd : ∀ w T1 T2, SlAt w T1 l.ti → SlAt w T2 l.li → Calls Tryz.prog 8 #[.agg (l.cells T1 T2)] w fun e w' => e = .returned (.bool (putL l).isSome) ∧ Below w.heap.size w w' := fun w T1 T2 a b => by rw [putL_may]; exact dletter_any l T1 T2 w hF a b
        have CQ0 : Hid (∀ w T1 T2, SlAt w T1 l.ti → SlAt w T2 l.li → Calls Tryz.prog 10 #[.agg (l.cells T1 T2)] w fun e w' => e = .returned (.string b0) ∧ Below w.heap.size w w') := fun w T1 T2 a b => dput_any l T1 T2 b0 w hF a b hp
        unfold PutPost at cp
        rw [hp] at cp cr cd
        have CP0 : Hid (∀ w T1 T2, SlAt w T1 l.ti → SlAt w T2 l.li → Calls Tryz.prog 7 #[.agg (l.cells T1 T2)] w fun e w' => e = .returned (.tuple #[.string b0, .bool true]) ∧ Below w.heap.size w w') := cp
        have CR0 : Hid (∀ w T1 T2, SlAt w T1 l.ti → SlAt w T2 l.li → Calls Tryz.prog 9 #[.agg (l.cells T1 T2)] w fun e w' => e = .returned (.bool true) ∧ Below w.heap.size w w') := cr
        have CD0 : Hid (∀ w T1 T2, SlAt w T1 l.ti → SlAt w T2 l.li → Calls Tryz.prog 8 #[.agg (l.cells T1 T2)] w fun e w' => e = .returned (.bool true) ∧ Below w.heap.size w w') := cd
        have HK : Hid (-9223372036854775808 ≤ l.k ∧ l.k ≤ 9223372036854775807) := hF.kB
        clear cp cr cd hp hF hb0 hs0
        go_enter Tryz.func3, Tryz.ntmps3
        go_upto_region 4 with (first
          | (with_reducible (show wpList _ _ _ (⟨some _, Op.load _ (Operand.tmp 2), _, _, _, _⟩ :: _) _ _); go_must (refine wpList_load_rowH (by first | rfl | kernel_rfl) 32 (.tmp 2) rfl W.heap.size rfl 32 (l.cells (.slice A1 n1 k1) (.slice A2 n2 k2)) (0, 0) _ (HR.out _ (by first | exact HB2.out | exact HB1.out | exact HB0.out)) Tryz.underlying32 rfl hszl ?_))
          | (with_reducible (show wpList _ _ _ (⟨none, Op.store _ (Operand.tmp 5) _, _, _, _, _⟩ :: _) _ _); go_must (refine wpList_store_row rfl 32 (.tmp 5) (.tmp 31) rfl w2.heap.size (l.cells (.slice A1 n1 k1) (.slice A2 n2 k2)) rfl rfl 32 ZC (heap_alloc_new w2 _) hszl hold.out hone.out ?_))
          | (go_at_call 4; ((with_reducible refine (CL.out _ HB0.out).mono ?_); rintro e w1 ⟨rfl, hb⟩; have HB1 : Hid (Below (W.alloc (.cells (l.cells (.slice A1 n1 k1) (.slice A2 n2 k2)) 32)).heap.size (W.alloc (.cells (l.cells (.slice A1 n1 k1) (.slice A2 n2 k2)) 32)) w1) := acc HB0.out hb; clear hb))
          | (go_at_call 5; ((with_reducible refine (CA.out _ HB1.out).mono ?_); rintro e w2 ⟨rfl, hb⟩; have HB2 : Hid (Below (W.alloc (.cells (l.cells (.slice A1 n1 k1) (.slice A2 n2 k2)) 32)).heap.size (W.alloc (.cells (l.cells (.slice A1 n1 k1) (.slice A2 n2 k2)) 32)) w2) := acc HB1.out hb; clear hb)))
        obtain ⟨rm, bm⟩ := new_rowL w2 (l.cells (.slice A1 n1 k1) (.slice A2 n2 k2))
        have HB3 := Lib.hid (acc HB2.out bm)
        have hbM1 : (W.alloc (.cells (l.cells (.slice A1 n1 k1) (.slice A2 n2 k2)) 32)).heap.size ≤ w2.heap.size := HB2.out.size
        obtain ⟨bM, hbM⟩ : ∃ n, w2.heap.size = n := ⟨_, rfl⟩
        obtain ⟨w3, hw3⟩ : ∃ w, ((w2.alloc (.cells ZC 32)).setRow w2.heap.size (l.cells (.slice A1 n1 k1) (.slice A2 n2 k2))) = w := ⟨_, rfl⟩
        rw [hw3] at rm HB3 ⊢
        rw [hbM] at rm hbM1 ⊢
        have RM : Hid (∀ w, Below w3.heap.size w3 w → w.heap[bM]? = some (.cells (l.cells (.slice A1 n1 k1) (.slice A2 n2 k2)) 32)) := fun w h => (h.block _ (lt_of_heap rm)).trans rm
        have hbM3 : bM < w3.drew.heap.size := lt_of_heap rm
        have hc0 : Below (W.alloc (.cells (l.cells (.slice A1 n1 k1) (.slice A2 n2 k2)) 32)).heap.size (W.alloc (.cells (l.cells (.slice A1 n1 k1) (.slice A2 n2 k2)) 32)) w3.drew := HB3.out.drew
        have hd0 : Below w3.heap.size w3 w3.drew := (Below.refl _ _).drew
        have HSS : Hid (∀ w, Below (W.alloc (.cells (l.cells (.slice A1 n1 k1) (.slice A2 n2 k2)) 32)).heap.size (W.alloc (.cells (l.cells (.slice A1 n1 k1) (.slice A2 n2 k2)) 32)) w → w.cell? ⟨W.heap.size, 18, none⟩ = some (.slice A2 n2 k2) ∧ w.cell? ⟨W.heap.size, 11, none⟩ = some (.slice A1 n1 k1)) := fun w h => ⟨cell_at (o := 18) (HR.out w h) rfl, cell_at (o := 11) (HR.out w h) rfl⟩
        clear bm hw3 hbM rm
        refine wp_region_held_drew (S := (fun w' => w'.cell? ⟨W.heap.size, 18, none⟩ = some (.slice A2 n2 k2) ∧ w'.cell? ⟨W.heap.size, 11, none⟩ = some (.slice A1 n1 k1))) (by kernel_rfl) ?_ (fun hHeld => ?_)
        · (try dsimp only); (first | assumption | exact HSS.out _ (by assumption))
        refine wpAnyH_take (i := 0) (oi := ⟨_, _, _, _, _, _⟩) (v := ?_) rfl (by kernel_rfl) (by kernel_rfl) (by kernel_rfl) (fun _ _ _ h => h) (Or.inl ⟨by rfl, ?_⟩) (by assumption) ?_
        rotate_left
        · (intro wS hSw; (try dsimp only at hSw); go_simp <;> with_reducible rfl)
        try simp only [Act.put, List.setIfInBounds_toArray, List.set_cons_zero, List.set_cons_succ]
        refine wpAnyH_take (i := 1) (oi := ⟨_, _, _, _, _, _⟩) (v := ?_) rfl (by kernel_rfl) (by kernel_rfl) (by kernel_rfl) (fun _ _ _ h => h) (Or.inl ⟨by rfl, ?_⟩) (by assumption) ?_
        rotate_left
        · (intro wS hSw; (try dsimp only at hSw); go_simp <;> with_reducible rfl)
        try simp only [Act.put, List.setIfInBounds_toArray, List.set_cons_zero, List.set_cons_succ]
        refine wpAnyH_take (i := 3) (oi := ⟨_, _, _, _, _, _⟩) (v := ?_) rfl (by kernel_rfl) (by kernel_rfl) (by kernel_rfl) (fun _ _ _ h => h) (Or.inl ⟨by rfl, ?_⟩) (by assumption) ?_
        rotate_left
        · (intro wS hSw; (try dsimp only at hSw); go_simp <;> with_reducible rfl)
        try simp only [Act.put, List.setIfInBounds_toArray, List.set_cons_zero, List.set_cons_succ]
        refine wpAnyH_take (i := 4) (oi := ⟨_, _, _, _, _, _⟩) (v := ?_) rfl (by kernel_rfl) (by kernel_rfl) (by kernel_rfl) (fun _ _ _ h => h) (Or.inl ⟨by rfl, ?_⟩) (by assumption) ?_
        rotate_left
        · (intro wS hSw; (try dsimp only at hSw); go_simp <;> with_reducible rfl)
        try simp only [Act.put, List.setIfInBounds_toArray, List.set_cons_zero, List.set_cons_succ]
        refine wpAnyH_take (i := 5) (oi := ⟨_, _, _, _, _, _⟩) (v := ?_) rfl (by kernel_rfl) (by kernel_rfl) (by kernel_rfl) (fun _ _ _ h => h) (Or.inl ⟨by rfl, ?_⟩) (by assumption) ?_
        rotate_left
        · (intro wS hSw; (try dsimp only at hSw); go_simp <;> with_reducible rfl)
        try simp only [Act.put, List.setIfInBounds_toArray, List.set_cons_zero, List.set_cons_succ]
        refine wpAnyH_ready (rs := [2]) (by kernel_rfl) (by simp) ?_
        refine AllReadyH.cons (o := ⟨_, _, _, _, _, _⟩) rfl (fun K hK => ?_) AllReadyH.nil
        go_simp
        (first | (go_at_call 6; (with_reducible refine (CL2.out _ hc0).mono ?_); rintro e w4 ⟨A4, c4, rfl, hl4, b4⟩; have hc1 := acc hc0 b4; have hd1 := acc hd0 b4; have HL4 := Lib.hid hl4; clear hl4 b4) | (go_at_call 6; (with_reducible refine (CL1.out _ hc1).mono ?_); rintro e w5 ⟨A5, c5, rfl, hl5, b5⟩; have hc2 := acc hc1 b5; have hd2 := acc hd1 b5; have HL4b := Lib.hid (HL4.out.below b5); have HL5 := Lib.hid hl5; have rm5 := RM.out _ hd2; have m18 := cell_at (o := 18) rm5 rfl; have m11 := cell_at (o := 11) rm5 rfl; have fr18 := frozen_at (o := 18) rm5; have fr11 := frozen_at (o := 11) rm5; clear hl5 b5 rm5))
        go_wp2_with fail
        refine hK.out _ _ (by (try dsimp only); (first | assumption | exact HSS.out _ (by assumption))) (fun hHeld => ?_)
        clear hK K
        try simp only [Act.put, List.setIfInBounds_toArray, List.set_cons_zero, List.set_cons_succ]
        refine wpAnyH_take (i := 7) (oi := ⟨_, _, _, _, _, _⟩) (v := ?_) rfl (by kernel_rfl) (by kernel_rfl) (by kernel_rfl) (fun _ _ _ h => h) (Or.inl ⟨by rfl, ?_⟩) (by assumption) ?_
        rotate_left
        · (intro wS hSw; (try dsimp only at hSw); go_simp <;> with_reducible rfl)
        try simp only [Act.put, List.setIfInBounds_toArray, List.set_cons_zero, List.set_cons_succ]
        refine wpAnyH_ready (rs := [6]) (by kernel_rfl) (by simp) ?_
        refine AllReadyH.cons (o := ⟨_, _, _, _, _, _⟩) rfl (fun K hK => ?_) AllReadyH.nil
        go_simp
        (first | (go_at_call 6; (with_reducible refine (CL2.out _ hc0).mono ?_); rintro e w4 ⟨A4, c4, rfl, hl4, b4⟩; have hc1 := acc hc0 b4; have hd1 := acc hd0 b4; have HL4 := Lib.hid hl4; clear hl4 b4) | (go_at_call 6; (with_reducible refine (CL1.out _ hc1).mono ?_); rintro e w5 ⟨A5, c5, rfl, hl5, b5⟩; have hc2 := acc hc1 b5; have hd2 := acc hd1 b5; have HL4b := Lib.hid (HL4.out.below b5); have HL5 := Lib.hid hl5; have rm5 := RM.out _ hd2; have m18 := cell_at (o := 18) rm5 rfl; have m11 := cell_at (o := 11) rm5 rfl; have fr18 := frozen_at (o := 18) rm5; have fr11 := frozen_at (o := 11) rm5; clear hl5 b5 rm5))
        go_wp2_with fail
        refine hK.out _ _ (by (try dsimp only); (first | assumption | exact HSS.out _ (by assumption))) (fun hHeld => ?_)
        clear hK K
        try simp only [Act.put, List.setIfInBounds_toArray, List.set_cons_zero, List.set_cons_succ]
        refine wpAnyH_ready (rs := [8]) (by kernel_rfl) (by simp) ?_
        refine AllReadyH.cons (o := ⟨_, _, _, _, _, _⟩) rfl (fun K hK => ?_) AllReadyH.nil
        go_simp
        refine hK.out _ _ (by (try dsimp only); exact HSS.out _ (hc2.setCell hbM1 _)) (fun hHeld => ?_)
        clear hK K
        try simp only [Act.put, List.setIfInBounds_toArray, List.set_cons_zero, List.set_cons_succ]
        refine wpAnyH_take (i := 9) (oi := ⟨_, _, _, _, _, _⟩) (v := ?_) rfl (by kernel_rfl) (by kernel_rfl) (by kernel_rfl) (fun _ _ _ h => h) (Or.inl ⟨by rfl, ?_⟩) (by assumption) ?_
        rotate_left
        · (intro wS hSw; (try dsimp only at hSw); go_simp <;> with_reducible rfl)
        try simp only [Act.put, List.setIfInBounds_toArray, List.set_cons_zero, List.set_cons_succ]
        refine wpAnyH_take (i := 10) (oi := ⟨_, _, _, _, _, _⟩) (v := ?_) rfl (by kernel_rfl) (by kernel_rfl) (by kernel_rfl) (fun _ _ _ h => h) (Or.inl ⟨by rfl, ?_⟩) (by assumption) ?_
        rotate_left
        · (intro wS hSw; (try dsimp only at hSw); go_simp <;> with_reducible rfl)
        try simp only [Act.put, List.setIfInBounds_toArray, List.set_cons_zero, List.set_cons_succ]
        refine wpAnyH_ready (rs := [11]) (by kernel_rfl) (by simp) ?_
        refine AllReadyH.cons (o := ⟨_, _, _, _, _, _⟩) rfl (fun K hK => ?_) AllReadyH.nil
        go_simp
        refine hK.out _ _ (by (try dsimp only); exact HSS.out _ ((hc2.setCell hbM1 _).setCell hbM1 _)) (fun hHeld => ?_)
        clear hK K
        try simp only [Act.put, List.setIfInBounds_toArray, List.set_cons_zero, List.set_cons_succ]
        refine wpAnyH_done (by kernel_rfl) ?_ _
        have rm5 := RM.out _ hd2
        obtain ⟨V, hV⟩ : ∃ V, ((w5.setCell ⟨bM, 18, none⟩ (.slice A4 n2 c4)).setCell ⟨bM, 11, none⟩ (.slice A5 n1 c5)) = V := ⟨_, rfl⟩
        have HBV : Hid (Below (W.alloc (.cells (l.cells (.slice A1 n1 k1) (.slice A2 n2 k2)) 32)).heap.size (W.alloc (.cells (l.cells (.slice A1 n1 k1) (.slice A2 n2 k2)) 32)) V) := by rw [← hV]; exact (hc2.setCell hbM1 _).setCell hbM1 _
        have hrm : V.heap[bM]? = some (.cells (l.cells (.slice A5 n1 c5) (.slice A4 n2 c4)) 32) := by rw [← hV]; exact heap_set (o := 11) _ (heap_set (o := 18) _ rm5)
        have hL4 : Lent w3.drew.heap.size V A4 c4 n2 l.li := by rw [← hV]; exact (HL4b.out.set (by exact hbM3) _).set (by exact hbM3) _
        have hL5 : ∃ K, Lent K V A5 c5 n1 l.ti := ⟨_, by rw [← hV]; exact (HL5.out.set (by exact Nat.lt_of_lt_of_le hbM3 hd1.size) _).set (by exact Nat.lt_of_lt_of_le hbM3 hd1.size) _⟩
        rw [hV]
        obtain ⟨K5, hL5⟩ := hL5
        have HRV : Hid (∀ w, Below V.heap.size V w → w.heap[W.heap.size]? = some (.cells (l.cells (.slice A1 n1 k1) (.slice A2 n2 k2)) 32) ∧ w.heap[bM]? = some (.cells (l.cells (.slice A5 n1 c5) (.slice A4 n2 c4)) 32)) := fun w h => ⟨HR.out w (acc HBV.out h), (h.block _ (lt_of_heap hrm)).trans hrm⟩
        have HCV : Hid (∀ w, Below V.heap.size V w → w.cell? ⟨W.heap.size, 18, none⟩ = some (.slice A2 n2 k2) ∧ w.cell? ⟨W.heap.size, 11, none⟩ = some (.slice A1 n1 k1) ∧ w.cell? ⟨bM, 18, none⟩ = some (.slice A4 n2 c4) ∧ w.cell? ⟨bM, 11, none⟩ = some (.slice A5 n1 c5)) := fun w h => ⟨cell_at (o := 18) (HRV.out w h).1 rfl, cell_at (o := 11) (HRV.out w h).1 rfl, cell_at (o := 18) (HRV.out w h).2 rfl, cell_at (o := 11) (HRV.out w h).2 rfl⟩
        have HSV : Hid (∀ w, Below V.heap.size V w → SlAt w (.slice A1 n1 k1) l.ti ∧ SlAt w (.slice A2 n2 k2) l.li) := fun w h => HSL.out w (acc HBV.out h)
        have CP : Hid (∀ w, Below V.heap.size V w → Calls Tryz.prog 7 #[.agg (l.cells (.slice A5 n1 c5) (.slice A4 n2 c4))] w fun e w' => e = .returned (.tuple #[.string b0, .bool true]) ∧ Below w.heap.size w w') := fun w h => CP0.out w _ _ (hL5.below h).slAt (hL4.below h).slAt
        have CR : Hid (∀ w, Below V.heap.size V w → Calls Tryz.prog 9 #[.agg (l.cells (.slice A5 n1 c5) (.slice A4 n2 c4))] w fun e w' => e = .returned (.bool true) ∧ Below w.heap.size w w') := fun w h => CR0.out w _ _ (hL5.below h).slAt (hL4.below h).slAt
        have CD : Hid (∀ w, Below V.heap.size V w → Calls Tryz.prog 8 #[.agg (l.cells (.slice A1 n1 k1) (.slice A2 n2 k2))] w fun e w' => e = .returned (.bool true) ∧ Below w.heap.size w w') := fun w h => CD0.out w _ _ (HSV.out w h).1 (HSV.out w h).2
        have CQP : Hid (∀ w, Below V.heap.size V w → Calls Tryz.prog 10 #[.agg (l.cells (.slice A1 n1 k1) (.slice A2 n2 k2))] w fun e w' => e = .returned (.string b0) ∧ Below w.heap.size w w') := fun w h => CQ0.out w _ _ (HSV.out w h).1 (HSV.out w h).2
        have CS2 : Hid (∀ w, Below V.heap.size V w → Calls Tryz.prog 11 #[.slice A4 n2 c4, (.slice A2 n2 k2)] w fun e w' => e = .returned (.bool true) ∧ Below w.heap.size w w') := fun w h => staysItems_any A4 c4 n2 _ _ l.li w (hL4.below h) (HSV.out w h).2 (by have := HL12.out; omega)
        have CS1 : Hid (∀ w, Below V.heap.size V w → Calls Tryz.prog 11 #[.slice A5 n1 c5, (.slice A1 n1 k1)] w fun e w' => e = .returned (.bool true) ∧ Below w.heap.size w w') := fun w h => staysItems_any A5 c5 n1 _ _ l.ti w (hL5.below h) (HSV.out w h).1 (by have := HL12.out; omega)
        have D5 : Hid (Below V.heap.size V V) := Below.refl _ _
        have hszM : (Tryz.prog.info? 32).map (·.size) = some (l.cells (.slice A5 n1 c5) (.slice A4 n2 c4)).size := hszl
        clear rm5 hV hrm hL4 hL5 hbM3 hc0 hc1 hc2 hd0 hd1 hd2 m18 m11 fr18 fr11 HSS HL4 HL4b HL5 HB3 hHeld hold hone CP0 CR0 CD0 CL1 CL2 RM CQ0
        go_wp2_with (first
          | (with_reducible (show wpList _ _ _ (⟨some _, Op.load _ (Operand.tmp 5), _, _, _, _⟩ :: _) _ _); go_must (refine wpList_load_rowH (by first | rfl | kernel_rfl) 32 (.tmp 5) rfl bM rfl 32 (l.cells (.slice A5 n1 c5) (.slice A4 n2 c4)) (0, 0) _ (HRV.out _ (by first | exact D9.out | exact D8.out | exact D7.out | exact D6.out | exact D5.out)).2 Tryz.underlying32 rfl hszM ?_))
          | (with_reducible (show wpList _ _ _ (⟨some 47, Op.load _ (Operand.tmp 2), _, _, _, _⟩ :: _) _ _); go_must (refine wpList_load_row rfl 32 (.tmp 2) rfl W.heap.size rfl 32 (l.cells (.slice A1 n1 k1) (.slice A2 n2 k2)) (0, 0) _ (HRV.out _ (by first | exact D9.out | exact D8.out | exact D7.out | exact D6.out | exact D5.out)).1 Tryz.underlying32 rfl hszl ?_))
          | (go_at_call 7; ((with_reducible refine (CP.out _ D5.out).mono ?_); rintro e w6 ⟨rfl, hb⟩; have D6 : Hid (Below V.heap.size V w6) := acc D5.out hb; clear hb))
          | (go_at_call 8; ((with_reducible refine (CD.out _ D6.out).mono ?_); rintro e w7 ⟨rfl, hb⟩; have D7 : Hid (Below V.heap.size V w7) := acc D6.out hb; clear hb))
          | (go_at_call 9; ((with_reducible refine (CR.out _ D7.out).mono ?_); rintro e w8 ⟨rfl, hb⟩; have D8 : Hid (Below V.heap.size V w8) := acc D7.out hb; clear hb))
          | (with_reducible (show wpList _ _ _ (⟨some 62, Op.load _ (Operand.tmp 2), _, _, _, _⟩ :: _) _ _); go_must (refine wpList_load_rowH (by kernel_rfl) 32 (.tmp 2) rfl W.heap.size rfl 32 (l.cells (.slice A1 n1 k1) (.slice A2 n2 k2)) (0, 0) _ (HRV.out _ (by first | exact D8.out | exact D7.out)).1 Tryz.underlying32 rfl hszl ?_))
          | (go_at_call 10; ((with_reducible refine (CQP.out _ D8.out).mono ?_); rintro e w9 ⟨rfl, hb⟩; have D9 : Hid (Below V.heap.size V w9) := acc D8.out hb; clear hb; obtain ⟨y1, y2, y3, y4⟩ := HCV.out _ D9.out))
          | (go_at_call 11; ((with_reducible refine (CS2.out _ D9.out).mono ?_); rintro e w10 ⟨rfl, hb⟩; have D10 : Hid (Below V.heap.size V w10) := acc D9.out hb; clear hb; obtain ⟨z1, z2, z3, z4⟩ := HCV.out _ D10.out))
          | (go_at_call 11; ((with_reducible refine (CS1.out _ D10.out).mono ?_); rintro e w11 ⟨rfl, hb⟩; have D11 : Hid (Below V.heap.size V w11) := acc D10.out hb; clear hb)))
        have hbb : Below (w11.heap.size + 1) (w11.alloc (.cells #[.slice none 0 0, .slice none 0 0, .slice none 0 0, .slice none 0 0, .slice none 0 0, .slice none 0 0, .slice none 0 0, .slice none 0 0, .slice none 0 0, .slice none 0 0, .slice none 0 0, .slice none 0 0, .slice none 0 0, .slice none 0 0] 49)) ((w11.alloc (.cells #[.slice none 0 0, .slice none 0 0, .slice none 0 0, .slice none 0 0, .slice none 0 0, .slice none 0 0, .slice none 0 0, .slice none 0 0, .slice none 0 0, .slice none 0 0, .slice none 0 0, .slice none 0 0, .slice none 0 0, .slice none 0 0] 49)).alloc (.cells #[.string b0, .string b] 9)) := (Below.refl _ _).alloc (by simp) _
        have KB0 := Lib.hid (KB.start hbb)
        have HBW : Hid (Below (W.alloc (.cells (l.cells (.slice A1 n1 k1) (.slice A2 n2 k2)) 32)).heap.size (W.alloc (.cells (l.cells (.slice A1 n1 k1) (.slice A2 n2 k2)) 32)) ((w11.alloc (.cells #[.slice none 0 0, .slice none 0 0, .slice none 0 0, .slice none 0 0, .slice none 0 0, .slice none 0 0, .slice none 0 0, .slice none 0 0, .slice none 0 0, .slice none 0 0, .slice none 0 0, .slice none 0 0, .slice none 0 0, .slice none 0 0] 49)).alloc (.cells #[.string b0, .string b] 9))) := (acc (acc HBV.out D11.out) ((Below.refl _ _).alloc (Nat.le_refl _) (.cells #[.slice none 0 0, .slice none 0 0, .slice none 0 0, .slice none 0 0, .slice none 0 0, .slice none 0 0, .slice none 0 0, .slice none 0 0, .slice none 0 0, .slice none 0 0, .slice none 0 0, .slice none 0 0, .slice none 0 0, .slice none 0 0] 49))).trans ((Below.refl _ _).alloc (by have := (acc HBV.out D11.out).size; simp at this ⊢; omega) _)
        have HGB : Hid (∀ x, x ∈ [w11.heap.size] → (W.alloc (.cells (l.cells (.slice A1 n1 k1) (.slice A2 n2 k2)) 32)).heap.size ≤ x) := fun x hx => by obtain rfl := List.mem_singleton.1 hx; exact (acc HBV.out D11.out).size
        have hrl : ((w11.alloc (.cells #[.slice none 0 0, .slice none 0 0, .slice none 0 0, .slice none 0 0, .slice none 0 0, .slice none 0 0, .slice none 0 0, .slice none 0 0, .slice none 0 0, .slice none 0 0, .slice none 0 0, .slice none 0 0, .slice none 0 0, .slice none 0 0] 49)).alloc (.cells #[.string b0, .string b] 9)).heap[w11.heap.size + 1]? = some (.cells #[.string b0, .string b] 9) := by
          have h := heap_alloc_new (w11.alloc (.cells #[.slice none 0 0, .slice none 0 0, .slice none 0 0, .slice none 0 0, .slice none 0 0, .slice none 0 0, .slice none 0 0, .slice none 0 0, .slice none 0 0, .slice none 0 0, .slice none 0 0, .slice none 0 0, .slice none 0 0, .slice none 0 0] 49)) (.cells #[.string b0, .string b] 9)
          simpa using h
        have HRL : Hid (∀ w, Touch [w11.heap.size] ((w11.alloc (.cells #[.slice none 0 0, .slice none 0 0, .slice none 0 0, .slice none 0 0, .slice none 0 0, .slice none 0 0, .slice none 0 0, .slice none 0 0, .slice none 0 0, .slice none 0 0, .slice none 0 0, .slice none 0 0, .slice none 0 0, .slice none 0 0] 49)).alloc (.cells #[.string b0, .string b] 9)) w → w.heap[W.heap.size]? = some (.cells (l.cells (.slice A1 n1 k1) (.slice A2 n2 k2)) 32) ∧ w.cell? ⟨w11.heap.size + 1, 0, none⟩ = some (.string b0) ∧ w.cell? ⟨w11.heap.size + 1, 1, none⟩ = some (.string b) ∧ SlAt w (.slice A1 n1 k1) l.ti ∧ SlAt w (.slice A2 n2 k2) l.li) := fun w h => by
          have e := (h.block (w11.heap.size + 1) (lt_of_heap hrl) (by simp)).trans hrl
          have hw := Touch.acc HBW.out h HGB.out
          exact ⟨HR.out w hw, cell_at (o := 0) e rfl, cell_at (o := 1) e rfl, HSL.out w hw⟩
        obtain ⟨gb, hgb⟩ : ∃ n, w11.heap.size = n := ⟨_, rfl⟩
        obtain ⟨w0, hw0⟩ : ∃ w, ((w11.alloc (.cells #[.slice none 0 0, .slice none 0 0, .slice none 0 0, .slice none 0 0, .slice none 0 0, .slice none 0 0, .slice none 0 0, .slice none 0 0, .slice none 0 0, .slice none 0 0, .slice none 0 0, .slice none 0 0, .slice none 0 0, .slice none 0 0] 49)).alloc (.cells #[.string b0, .string b] 9)) = w := ⟨_, rfl⟩
        rw [hw0] at KB0 HBW HRL ⊢
        rw [hgb] at KB0 HGB HRL ⊢
        clear hbb hrl hw0 hgb HCV HRV HSV CP CR CD CS1 CS2 D5 HBV CQP
        go_loopg [99] 3 (fun z s99 wx => ∃ (i : Nat) (es : List (Value × List Item)), i + z = 3 ∧ i ≤ 2 ∧ s99 = .int .i64 (i : Nat) ∧ Hid (KB w0 wx gb es [] [] ∧ es.length ≤ 2 * i ∧ ∀ x ∈ es, x.2.length ≤ 90000))
        case atStart => exact ⟨0, [], by omega, by omega, rfl, KB0.out, by simp, by simp⟩
        case round =>
          obtain ⟨i, es, hiz, hi2, rfl, HB⟩ := hrel
          by_cases hi : i < 2
          · have bi : decide ((i : Int) < 2) = true := by simp; omega
            have bj : (i : Int) < 2 := by omega
            obtain ⟨c, hc, hcs⟩ : ∃ c, wr.cell? ⟨gb + 1, i, none⟩ = some (.string c) ∧ c.size ≤ 9223372036854775807 := by
              obtain ⟨-, y0, y1, -⟩ := HRL.out wr HB.out.1.touch
              have hc : i = 0 ∨ i = 1 := by omega
              rcases hc with rfl | rfl
              · exact ⟨_, y0, HBS.out.1⟩
              · exact ⟨_, y1, HBS.out.2⟩
            have cg := fun w => gl_any c w hcs
            have cd := fun w => dgl_any c w hcs
            have hml := getL_lens c
            clear hcs
            cases de : (c.toList == (b0.toList)) with
            | false =>
              obtain ⟨m, hm⟩ : ∃ m, (getL c).getD ZL = m := ⟨_, rfl⟩
              obtain ⟨is, his⟩ : ∃ is, (getL c).isSome = is := ⟨_, rfl⟩
              rw [hm, his] at cg cd
              rw [hm] at hml
              have CG := Lib.hid cg
              have CD := Lib.hid cd
              have HML := Lib.hid hml
              clear cg cd hm his hml
              go_upto_region 14 with (first
                | (go_at_call 12; ((with_reducible refine (CG.out _).mono ?_); rintro e w12 ⟨hb12, A7, c7, A8, c8, rfl, ho7, ho8, hap⟩; have HB12 := Lib.hid hb12; have HO7 := Lib.hid ho7; have HO8 := Lib.hid ho8; have HAP := Lib.hid hap; clear hb12 ho7 ho8 hap; have hone : Hid ((m.cells (.slice A7 m.ti.length c7) (.slice A8 m.li.length c8)).all (·.oneCell') = true) := (by show _ = _; first | kernel_rfl | simp [Value.oneCell']); have hold : Hid (ZC.size = (m.cells (.slice A7 m.ti.length c7) (.slice A8 m.li.length c8)).size) := rfl; have hszX : (Tryz.prog.info? 32).map (·.size) = some (m.cells (.slice A7 m.ti.length c7) (.slice A8 m.li.length c8)).size := hszl))
                | (with_reducible (show wpList _ _ _ (⟨none, Op.store _ (Operand.tmp 12) _, _, _, _, _⟩ :: _) _ _); go_must (refine wpList_store_row rfl 32 (.tmp 12) (.tmp 106) rfl w12.heap.size (m.cells (.slice A7 m.ti.length c7) (.slice A8 m.li.length c8)) rfl rfl 32 ZC (heap_alloc_new w12 _) hszX hold.out hone.out ?_)))
              obtain ⟨ry, by_⟩ := new_rowL w12 (m.cells (.slice A7 m.ti.length c7) (.slice A8 m.li.length c8))
              have kb1 := (HB.out.1.push2 HB12.out HO8.out HO7.out HAP.out).out_ (Q := [w12.heap.size]) by_ (fun q hq => by obtain rfl := List.mem_singleton.1 hq; exact ⟨Nat.le_refl _, lt_of_heap ry⟩)
              obtain ⟨bY, hbY⟩ : ∃ n, w12.heap.size = n := ⟨_, rfl⟩
              obtain ⟨wa, hwa⟩ : ∃ w, ((w12.alloc (.cells ZC 32)).setRow w12.heap.size (m.cells (.slice A7 m.ti.length c7) (.slice A8 m.li.length c8))) = w := ⟨_, rfl⟩
              rw [hwa] at ry kb1 ⊢
              rw [hbY] at ry kb1 ⊢
              have KB1 := Lib.hid kb1
              clear by_ hwa hbY hone hold hszX HB12 HO7 HO8 HAP kb1
              go_upto_region 15 with (first
                | (go_at_call 13; ((with_reducible refine (CD.out _).mono ?_); rintro e w13 ⟨hb13, A9, c9, A10, c10, rfl, ho9, ho10⟩; have HB13 := Lib.hid hb13; have HO9 := Lib.hid ho9; have HO10 := Lib.hid ho10; clear hb13 ho9 ho10; have hone : Hid ((m.cells (.slice A9 m.ti.length c9) (.slice A10 m.li.length c10)).all (·.oneCell') = true) := (by show _ = _; first | kernel_rfl | simp [Value.oneCell']); have hold : Hid (ZC.size = (m.cells (.slice A9 m.ti.length c9) (.slice A10 m.li.length c10)).size) := rfl; have hszX : (Tryz.prog.info? 32).map (·.size) = some (m.cells (.slice A9 m.ti.length c9) (.slice A10 m.li.length c10)).size := hszl))
                | (with_reducible (show wpList _ _ _ (⟨none, Op.store _ (Operand.tmp 14) _, _, _, _, _⟩ :: _) _ _); go_must (refine wpList_store_row rfl 32 (.tmp 14) (.tmp 111) rfl w13.heap.size (m.cells (.slice A9 m.ti.length c9) (.slice A10 m.li.length c10)) rfl rfl 32 ZC (heap_alloc_new w13 _) hszX hold.out hone.out ?_)))
              obtain ⟨rz, bz⟩ := new_rowL w13 (m.cells (.slice A9 m.ti.length c9) (.slice A10 m.li.length c10))
              have kb2 := (KB1.out.out_ (Q := blk (.slice A9 m.ti.length c9) ++ blk (.slice A10 m.li.length c10)) HB13.out (fun q hq => (List.mem_append.1 hq).elim (fun z => HO9.out.lt q (mem_blk.1 z)) (fun z => HO10.out.lt q (mem_blk.1 z)))).out_ (Q := [w13.heap.size]) bz (fun q hq => by obtain rfl := List.mem_singleton.1 hq; exact ⟨Nat.le_refl _, lt_of_heap rz⟩)
              have o9 := own_mono (own_step HO9.out bz) (Nat.zero_le _)
              have o10 := own_mono (own_step HO10.out bz) (Nat.zero_le _)
              have ry1 := ((acc HB13.out bz).block _ (lt_of_heap ry)).trans ry
              obtain ⟨bZ, hbZ⟩ : ∃ n, w13.heap.size = n := ⟨_, rfl⟩
              obtain ⟨wb, hwb⟩ : ∃ w, ((w13.alloc (.cells ZC 32)).setRow w13.heap.size (m.cells (.slice A9 m.ti.length c9) (.slice A10 m.li.length c10))) = w := ⟨_, rfl⟩
              rw [hwb] at ry1 rz kb2 o9 o10 ⊢
              rw [hbZ] at rz kb2 ⊢
              have KB2 : Hid (KB w0 wb gb es [((.slice A8 m.li.length c8), m.li), ((.slice A7 m.ti.length c7), m.ti)] ([bZ] ++ ((blk (.slice A9 m.ti.length c9) ++ blk (.slice A10 m.li.length c10)) ++ ([bY] ++ [])))) := kb2
              have c18 := cell_at (o := 18) ry1 rfl
              have CB := Lib.hid (KB2.out.book rfl (by have := HB.out.2.1; omega) (by have := HML.out; omega))
              clear bz hwb hbZ hone hold hszX HB13 HO9 HO10 kb2 KB1 ry
              go_upto_region 16 with (go_at_call 14; ((with_reducible refine CB.out.mono ?_); rintro e w14 ⟨rfl, kb3, G, tG, hG⟩))
              have ry2 := (tG.block bY (lt_of_heap ry1) (hG bY (by simp))).trans ry1
              have rz2 := (tG.block bZ (lt_of_heap rz) (hG bZ (by simp))).trans rz
              have p9 := tG.row o9 (fun q hq => hG q (by simp [mem_blk.2 hq]))
              have p10 := tG.row o10 (fun q hq => hG q (by simp [mem_blk.2 hq]))
              have c11 := cell_at (o := 11) ry2 rfl
              have CB2 := Lib.hid (kb3.book rfl (by have := HB.out.2.1; simp; omega) (by have := HML.out; omega))
              clear ry1 rz o9 o10 c18 CB KB2 kb3 tG hG
              go_upto_region 17 with (go_at_call 14; ((with_reducible refine CB2.out.mono ?_); rintro e w15 ⟨rfl, kb4, G2, tG2, hG2⟩))
              have ry3 := (tG2.block bY (lt_of_heap ry2) (hG2 bY (by simp))).trans ry2
              have rz3 := (tG2.block bZ (lt_of_heap rz2) (hG2 bZ (by simp))).trans rz2
              have s9 := slAt_own (tG2.row p9 (fun q hq => hG2 q (by simp [mem_blk.2 hq])))
              have s10 := slAt_own (tG2.row p10 (fun q hq => hG2 q (by simp [mem_blk.2 hq])))
              have s7 := slAt_own (kb4.row (A := A7) (c := c7) (n := m.ti.length) (l := m.ti) (by simp))
              have s8 := slAt_own (kb4.row (A := A8) (c := c8) (n := m.li.length) (l := m.li) (by simp))
              have KB4 := Lib.hid kb4
              have HRB : Hid (∀ w, Below w15.heap.size w15 w → w.heap[bY]? = some (.cells (m.cells (.slice A7 m.ti.length c7) (.slice A8 m.li.length c8)) 32) ∧ w.heap[bZ]? = some (.cells (m.cells (.slice A9 m.ti.length c9) (.slice A10 m.li.length c10)) 32) ∧ w.heap[W.heap.size]? = some (.cells (l.cells (.slice A1 n1 k1) (.slice A2 n2 k2)) 32)) := fun w h => ⟨(h.block _ (lt_of_heap ry3)).trans ry3, (h.block _ (lt_of_heap rz3)).trans rz3, (HRL.out w (KB4.out.below h).touch).1⟩
              have K0 : Hid (Below w15.heap.size w15 w15) := Below.refl _ _
              have hszX : (Tryz.prog.info? 32).map (·.size) = some (m.cells (.slice A7 m.ti.length c7) (.slice A8 m.li.length c8)).size := hszl
              have hszY : (Tryz.prog.info? 32).map (·.size) = some (m.cells (.slice A9 m.ti.length c9) (.slice A10 m.li.length c10)).size := hszl
              have CS : Hid (∀ w, Below w15.heap.size w15 w → Calls Tryz.prog 15 #[.agg (m.cells (.slice A7 m.ti.length c7) (.slice A8 m.li.length c8)), .agg (m.cells (.slice A9 m.ti.length c9) (.slice A10 m.li.length c10))] w fun e w' => e = .returned (.bool true) ∧ Below w.heap.size w w') := fun w h => same_self m _ _ _ _ w (s7.below h) (s8.below h) (s9.below h) (s10.below h)
              clear ry2 rz2 p9 p10 c11 CB2 kb4 tG2 hG2 ry3 rz3 s7 s8 s9 s10
              go_wp2_with (first
                | (with_reducible (show wpList _ _ _ (⟨some 126, Op.load _ (Operand.tmp 12), _, _, _, _⟩ :: _) _ _); go_must (refine wpList_load_rowH (by kernel_rfl) 32 (.tmp 12) rfl bY rfl 32 (m.cells (.slice A7 m.ti.length c7) (.slice A8 m.li.length c8)) (0, 0) _ (HRB.out _ (by first | exact K2.out | exact K1.out | exact K0.out)).1 Tryz.underlying32 rfl hszX ?_))
                | (with_reducible (show wpList _ _ _ (⟨some 127, Op.load _ (Operand.tmp 14), _, _, _, _⟩ :: _) _ _); go_must (refine wpList_load_rowH (by kernel_rfl) 32 (.tmp 14) rfl bZ rfl 32 (m.cells (.slice A9 m.ti.length c9) (.slice A10 m.li.length c10)) (0, 0) _ (HRB.out _ (by first | exact K2.out | exact K1.out | exact K0.out)).2.1 Tryz.underlying32 rfl hszY ?_))
                | (go_at_call 15; ((with_reducible refine (CS.out _ K0.out).mono ?_); rintro e w16 ⟨rfl, hb16⟩; have K1 := Lib.hid (acc K0.out hb16); clear hb16)))
              go_roundg (gk - 1)
              case measure => omega
              case rel => exact ⟨i + 1, _, by omega, by omega, by go_num, (KB4.out.below K1.out).free, by have := HB.out.2.1; simp; omega, fun x hx => es_lens HB.out.2.2 hx (by have := HML.out; omega) (by have := HML.out; omega)⟩
            | true =>
              obtain rfl := toList_inj (beq_iff_eq.1 de)
              rw [HGS.out] at cg cd hml
              have CG : Hid (∀ w, Calls Tryz.prog 12 #[.string c] w (GLQ w l true)) := cg
              have CD : Hid (∀ w, Calls Tryz.prog 13 #[.string c] w (GLP w l true)) := cd
              have HML : Hid (l.ti.length ≤ 40 ∧ l.li.length ≤ 40) := hml
              clear cg cd hml
              go_upto_region 14 with (first
                | (go_at_call 12; ((with_reducible refine (CG.out _).mono ?_); rintro e w12 ⟨hb12, A7, c7, A8, c8, rfl, ho7, ho8, hap⟩; have HB12 := Lib.hid hb12; have HO7 := Lib.hid ho7; have HO8 := Lib.hid ho8; have HAP := Lib.hid hap; clear hb12 ho7 ho8 hap; have hone : Hid ((l.cells (.slice A7 l.ti.length c7) (.slice A8 l.li.length c8)).all (·.oneCell') = true) := (by show _ = _; first | kernel_rfl | simp [Value.oneCell']); have hold : Hid (ZC.size = (l.cells (.slice A7 l.ti.length c7) (.slice A8 l.li.length c8)).size) := rfl; have hszX : (Tryz.prog.info? 32).map (·.size) = some (l.cells (.slice A7 l.ti.length c7) (.slice A8 l.li.length c8)).size := hszl))
                | (with_reducible (show wpList _ _ _ (⟨none, Op.store _ (Operand.tmp 12) _, _, _, _, _⟩ :: _) _ _); go_must (refine wpList_store_row rfl 32 (.tmp 12) (.tmp 106) rfl w12.heap.size (l.cells (.slice A7 l.ti.length c7) (.slice A8 l.li.length c8)) rfl rfl 32 ZC (heap_alloc_new w12 _) hszX hold.out hone.out ?_)))
              obtain ⟨ry, by_⟩ := new_rowL w12 (l.cells (.slice A7 l.ti.length c7) (.slice A8 l.li.length c8))
              have kb1 := (HB.out.1.push2 HB12.out HO8.out HO7.out HAP.out).out_ (Q := [w12.heap.size]) by_ (fun q hq => by obtain rfl := List.mem_singleton.1 hq; exact ⟨Nat.le_refl _, lt_of_heap ry⟩)
              obtain ⟨bY, hbY⟩ : ∃ n, w12.heap.size = n := ⟨_, rfl⟩
              obtain ⟨wa, hwa⟩ : ∃ w, ((w12.alloc (.cells ZC 32)).setRow w12.heap.size (l.cells (.slice A7 l.ti.length c7) (.slice A8 l.li.length c8))) = w := ⟨_, rfl⟩
              rw [hwa] at ry kb1 ⊢
              rw [hbY] at ry kb1 ⊢
              have KB1 := Lib.hid kb1
              clear by_ hwa hbY hone hold hszX HB12 HO7 HO8 HAP kb1
              go_upto_region 15 with (first
                | (go_at_call 13; ((with_reducible refine (CD.out _).mono ?_); rintro e w13 ⟨hb13, A9, c9, A10, c10, rfl, ho9, ho10⟩; have HB13 := Lib.hid hb13; have HO9 := Lib.hid ho9; have HO10 := Lib.hid ho10; clear hb13 ho9 ho10; have hone : Hid ((l.cells (.slice A9 l.ti.length c9) (.slice A10 l.li.length c10)).all (·.oneCell') = true) := (by show _ = _; first | kernel_rfl | simp [Value.oneCell']); have hold : Hid (ZC.size = (l.cells (.slice A9 l.ti.length c9) (.slice A10 l.li.length c10)).size) := rfl; have hszX : (Tryz.prog.info? 32).map (·.size) = some (l.cells (.slice A9 l.ti.length c9) (.slice A10 l.li.length c10)).size := hszl))
                | (with_reducible (show wpList _ _ _ (⟨none, Op.store _ (Operand.tmp 14) _, _, _, _, _⟩ :: _) _ _); go_must (refine wpList_store_row rfl 32 (.tmp 14) (.tmp 111) rfl w13.heap.size (l.cells (.slice A9 l.ti.length c9) (.slice A10 l.li.length c10)) rfl rfl 32 ZC (heap_alloc_new w13 _) hszX hold.out hone.out ?_)))
              obtain ⟨rz, bz⟩ := new_rowL w13 (l.cells (.slice A9 l.ti.length c9) (.slice A10 l.li.length c10))
              have kb2 := (KB1.out.out_ (Q := blk (.slice A9 l.ti.length c9) ++ blk (.slice A10 l.li.length c10)) HB13.out (fun q hq => (List.mem_append.1 hq).elim (fun z => HO9.out.lt q (mem_blk.1 z)) (fun z => HO10.out.lt q (mem_blk.1 z)))).out_ (Q := [w13.heap.size]) bz (fun q hq => by obtain rfl := List.mem_singleton.1 hq; exact ⟨Nat.le_refl _, lt_of_heap rz⟩)
              have o9 := own_mono (own_step HO9.out bz) (Nat.zero_le _)
              have o10 := own_mono (own_step HO10.out bz) (Nat.zero_le _)
              have ry1 := ((acc HB13.out bz).block _ (lt_of_heap ry)).trans ry
              obtain ⟨bZ, hbZ⟩ : ∃ n, w13.heap.size = n := ⟨_, rfl⟩
              obtain ⟨wb, hwb⟩ : ∃ w, ((w13.alloc (.cells ZC 32)).setRow w13.heap.size (l.cells (.slice A9 l.ti.length c9) (.slice A10 l.li.length c10))) = w := ⟨_, rfl⟩
              rw [hwb] at ry1 rz kb2 o9 o10 ⊢
              rw [hbZ] at rz kb2 ⊢
              have KB2 : Hid (KB w0 wb gb es [((.slice A8 l.li.length c8), l.li), ((.slice A7 l.ti.length c7), l.ti)] ([bZ] ++ ((blk (.slice A9 l.ti.length c9) ++ blk (.slice A10 l.li.length c10)) ++ ([bY] ++ [])))) := kb2
              have c18 := cell_at (o := 18) ry1 rfl
              have CB := Lib.hid (KB2.out.book rfl (by have := HB.out.2.1; omega) (by have := HML.out; omega))
              clear bz hwb hbZ hone hold hszX HB13 HO9 HO10 kb2 KB1 ry
              go_upto_region 16 with (go_at_call 14; ((with_reducible refine CB.out.mono ?_); rintro e w14 ⟨rfl, kb3, G, tG, hG⟩))
              have ry2 := (tG.block bY (lt_of_heap ry1) (hG bY (by simp))).trans ry1
              have rz2 := (tG.block bZ (lt_of_heap rz) (hG bZ (by simp))).trans rz
              have p9 := tG.row o9 (fun q hq => hG q (by simp [mem_blk.2 hq]))
              have p10 := tG.row o10 (fun q hq => hG q (by simp [mem_blk.2 hq]))
              have c11 := cell_at (o := 11) ry2 rfl
              have CB2 := Lib.hid (kb3.book rfl (by have := HB.out.2.1; simp; omega) (by have := HML.out; omega))
              clear ry1 rz o9 o10 c18 CB KB2 kb3 tG hG
              go_upto_region 17 with (go_at_call 14; ((with_reducible refine CB2.out.mono ?_); rintro e w15 ⟨rfl, kb4, G2, tG2, hG2⟩))
              have ry3 := (tG2.block bY (lt_of_heap ry2) (hG2 bY (by simp))).trans ry2
              have rz3 := (tG2.block bZ (lt_of_heap rz2) (hG2 bZ (by simp))).trans rz2
              have s9 := slAt_own (tG2.row p9 (fun q hq => hG2 q (by simp [mem_blk.2 hq])))
              have s10 := slAt_own (tG2.row p10 (fun q hq => hG2 q (by simp [mem_blk.2 hq])))
              have s7 := slAt_own (kb4.row (A := A7) (c := c7) (n := l.ti.length) (l := l.ti) (by simp))
              have s8 := slAt_own (kb4.row (A := A8) (c := c8) (n := l.li.length) (l := l.li) (by simp))
              have KB4 := Lib.hid kb4
              have HRB : Hid (∀ w, Below w15.heap.size w15 w → w.heap[bY]? = some (.cells (l.cells (.slice A7 l.ti.length c7) (.slice A8 l.li.length c8)) 32) ∧ w.heap[bZ]? = some (.cells (l.cells (.slice A9 l.ti.length c9) (.slice A10 l.li.length c10)) 32) ∧ w.heap[W.heap.size]? = some (.cells (l.cells (.slice A1 n1 k1) (.slice A2 n2 k2)) 32)) := fun w h => ⟨(h.block _ (lt_of_heap ry3)).trans ry3, (h.block _ (lt_of_heap rz3)).trans rz3, (HRL.out w (KB4.out.below h).touch).1⟩
              have K0 : Hid (Below w15.heap.size w15 w15) := Below.refl _ _
              have hszX : (Tryz.prog.info? 32).map (·.size) = some (l.cells (.slice A7 l.ti.length c7) (.slice A8 l.li.length c8)).size := hszl
              have hszY : (Tryz.prog.info? 32).map (·.size) = some (l.cells (.slice A9 l.ti.length c9) (.slice A10 l.li.length c10)).size := hszl
              have CS : Hid (∀ w, Below w15.heap.size w15 w → Calls Tryz.prog 15 #[.agg (l.cells (.slice A7 l.ti.length c7) (.slice A8 l.li.length c8)), .agg (l.cells (.slice A9 l.ti.length c9) (.slice A10 l.li.length c10))] w fun e w' => e = .returned (.bool true) ∧ Below w.heap.size w w') := fun w h => same_self l _ _ _ _ w (s7.below h) (s8.below h) (s9.below h) (s10.below h)
              have CQ : Hid (∀ w, Below w15.heap.size w15 w → Calls Tryz.prog 15 #[.agg (l.cells (.slice A7 l.ti.length c7) (.slice A8 l.li.length c8)), .agg (l.cells (.slice A1 n1 k1) (.slice A2 n2 k2))] w fun e w' => e = .returned (.bool true) ∧ Below w.heap.size w w') := fun w h => same_self l _ _ _ _ w (s7.below h) (s8.below h) (HRL.out w (KB4.out.below h).touch).2.2.2.1 (HRL.out w (KB4.out.below h).touch).2.2.2.2
              clear ry2 rz2 p9 p10 c11 CB2 kb4 tG2 hG2 ry3 rz3 s7 s8 s9 s10
              go_wp2_with (first
                | (with_reducible (show wpList _ _ _ (⟨some 126, Op.load _ (Operand.tmp 12), _, _, _, _⟩ :: _) _ _); go_must (refine wpList_load_rowH (by kernel_rfl) 32 (.tmp 12) rfl bY rfl 32 (l.cells (.slice A7 l.ti.length c7) (.slice A8 l.li.length c8)) (0, 0) _ (HRB.out _ (by first | exact K2.out | exact K1.out | exact K0.out)).1 Tryz.underlying32 rfl hszX ?_))
                | (with_reducible (show wpList _ _ _ (⟨some 127, Op.load _ (Operand.tmp 14), _, _, _, _⟩ :: _) _ _); go_must (refine wpList_load_rowH (by kernel_rfl) 32 (.tmp 14) rfl bZ rfl 32 (l.cells (.slice A9 l.ti.length c9) (.slice A10 l.li.length c10)) (0, 0) _ (HRB.out _ (by first | exact K2.out | exact K1.out | exact K0.out)).2.1 Tryz.underlying32 rfl hszY ?_))
                | (with_reducible (show wpList _ _ _ (⟨some 149, Op.load _ (Operand.tmp 12), _, _, _, _⟩ :: _) _ _); go_must (refine wpList_load_rowH (by kernel_rfl) 32 (.tmp 12) rfl bY rfl 32 (l.cells (.slice A7 l.ti.length c7) (.slice A8 l.li.length c8)) (0, 0) _ (HRB.out _ (by first | exact K2.out | exact K1.out | exact K0.out)).1 Tryz.underlying32 rfl hszX ?_))
                | (with_reducible (show wpList _ _ _ (⟨some 150, Op.load _ (Operand.tmp 2), _, _, _, _⟩ :: _) _ _); go_must (refine wpList_load_rowH (by kernel_rfl) 32 (.tmp 2) rfl W.heap.size rfl 32 (l.cells (.slice A1 n1 k1) (.slice A2 n2 k2)) (0, 0) _ (HRB.out _ (by first | exact K2.out | exact K1.out | exact K0.out)).2.2 Tryz.underlying32 rfl hszl ?_))
                | (go_at_call 15; ((with_reducible refine (CS.out _ K0.out).mono ?_); rintro e w16 ⟨rfl, hb16⟩; have K1 := Lib.hid (acc K0.out hb16); clear hb16))
                | (go_at_call 15; ((with_reducible refine (CQ.out _ K1.out).mono ?_); rintro e w17 ⟨rfl, hb17⟩; have K2 := Lib.hid (acc K1.out hb17); clear hb17)))
              go_roundg (gk - 1)
              case measure => omega
              case rel => exact ⟨i + 1, _, by omega, by omega, by go_num, (KB4.out.below K2.out).free, by have := HB.out.2.1; simp; omega, fun x hx => es_lens HB.out.2.2 hx (by have := HML.out; omega) (by have := HML.out; omega)⟩
          · obtain rfl : i = 2 := by omega
            have bi : decide (((2 : Nat) : Int) < 2) = false := by decide
            have CAP : Hid (∀ w, Below wr.heap.size wr w → Calls Tryz.prog 17 #[.pointer (some ⟨gb, 0, none⟩)] w fun e w' => e = .returned (.bool true) ∧ Touch [gb] w0 w') := fun w h => (HB.out.1.below h).apart (by have := HB.out.2.1; omega) HB.out.2.2
            have hx := (HRL.out wr HB.out.1.touch).1
            have x0 : ∀ o, (wr.alloc o).cell? ⟨W.heap.size, 0, none⟩ = some (.int .i64 l.k) := fun o => cell_at (o := 0) ((Lib.alloc_old _ _ _ (lt_of_heap hx)).trans hx) rfl
            have CN : Hid (∀ w, Calls Tryz.prog 16 #[.int .i64 l.k] w fun e w' => e = .returned (.string (nameT l.k)) ∧ Below w.heap.size w w') := fun w => name_any_ l.k w HK.out.1 HK.out.2
            clear hx
            generalize l.k = kk at *
            by_cases hk : 0 ≤ kk ∧ kk < 17
            · obtain ⟨j, rfl⟩ := Int.eq_ofNat_of_zero_le hk.1
              have hj : j < 17 := by omega
              have e1 : nameT (j : Int) = nameList.getD j ByteArray.empty := by rw [nameT, if_pos hk, Int.toNat_natCast]
              have hc : (wr.alloc (.cells NC 9)).cell? ⟨wr.heap.size, j, none⟩ = some (.string (nameT (j : Int))) := by rw [e1]; exact cell_at (heap_alloc_new wr _) (nc_at j hj)
              have d1 : decide ((j : Int) ≥ 0) = true := by simp
              have d2 : decide ((j : Int) < 17) = true := by simp; omega
              simp only [NC] at hc
              generalize nameT (j : Int) = nm at *
              clear e1 hk
              go_wp2_with (first
                | (go_at_call 16; ((with_reducible refine (CN.out _).mono ?_); rintro e w20 ⟨rfl, hb20⟩; have K20 : Hid (Below wr.heap.size wr w20) := acc ((Below.refl _ _).alloc (Nat.le_refl _) _) hb20; clear hb20))
                | (go_at_call 17; ((with_reducible refine (CAP.out _ K20.out).mono ?_); rintro e w21 ⟨rfl, t21⟩)))
              go_ret
              exact ⟨rfl, UP.out _ (Touch.acc HBW.out t21 HGB.out)⟩
            · have e1 : nameT kk = ⟨#[]⟩ := by rw [nameT, if_neg hk]; rfl
              rw [e1] at CN
              by_cases hn : 0 ≤ kk
              · have d1 : decide (kk ≥ 0) = true := decide_eq_true hn
                have d2 : decide (kk < 17) = false := decide_eq_false (by omega)
                clear e1 hk hn
                go_wp2_with (first
                  | (go_at_call 16; ((with_reducible refine (CN.out _).mono ?_); rintro e w20 ⟨rfl, hb20⟩; have K20 : Hid (Below wr.heap.size wr w20) := acc ((Below.refl _ _).alloc (Nat.le_refl _) _) hb20; clear hb20))
                  | (go_at_call 17; ((with_reducible refine (CAP.out _ K20.out).mono ?_); rintro e w21 ⟨rfl, t21⟩)))
                go_ret
                exact ⟨rfl, UP.out _ (Touch.acc HBW.out t21 HGB.out)⟩
              · have d1 : decide (kk ≥ 0) = false := decide_eq_false hn
                clear e1 hk hn
                go_wp2_with (first
                  | (go_at_call 16; ((with_reducible refine (CN.out _).mono ?_); rintro e w20 ⟨rfl, hb20⟩; have K20 : Hid (Below wr.heap.size wr w20) := acc ((Below.refl _ _).alloc (Nat.le_refl _) _) hb20; clear hb20))
                  | (go_at_call 17; ((with_reducible refine (CAP.out _ K20.out).mono ?_); rintro e w21 ⟨rfl, t21⟩)))
                go_ret
                exact ⟨rfl, UP.out _ (Touch.acc HBW.out t21 HGB.out)⟩
end Go.Proofs.YtbnmddopgbhapaaGreat
