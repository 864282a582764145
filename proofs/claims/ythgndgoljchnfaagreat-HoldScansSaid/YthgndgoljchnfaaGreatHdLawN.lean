/-
  Scans one behind the other tell all items that lie there (HoldScans). (Written by tools/genHN.py over hdscans.head.)
-/
import Derived.Test.YthgndgoljchnfaaGreatHdAlive
import Derived.Test.YthgndgoljchnfaaGreatHg32
import Derived.Test.YthgndgoljchnfaaGreatHdPair
import Derived.Test.YthgndgoljchnfaaGreatHg12
import Derived.Test.YthgndgoljchnfaaGreatHg06
import Derived.Test.YthgndgoljchnfaaGreatHg05
import Derived.Deep.CutBlock
import Derived.Deep.RegionHeld3
import Derived.BigQuiet
namespace Go.Proofs.YthgndgoljchnfaaGreat
open Go.RowKit

section
variable {VD : World → Nat → HO → List Nat → Prop}
theorem hn_two0 (w : World) (a b : Value) (T : TypeId) : (w.alloc (.cells #[a, b] T)).cell? ⟨w.heap.size, 0, none⟩ = some a := by go_simp
theorem hn_two1 (w : World) (a b : Value) (T : TypeId) : (w.alloc (.cells #[a, b] T)).cell? ⟨w.heap.size, 1, none⟩ = some b := by go_simp
theorem hn_lower {W : World} {base b0 e size n : Nat} {v : Value} {xs : List Value} (h : W.ownsRow base e size v n xs) (hb : b0 ≤ base) : W.ownsRow b0 e size v n xs := by
  refine ⟨h.1, ?_⟩
  rcases h.2 with h1 | ⟨g, cap, cur, h0, h2, h3⟩
  · exact .inl h1
  · exact .inr ⟨g, cap, cur, h0, Nat.le_trans hb h2, h3⟩
theorem hn_infoItems : ∃ i, Tryz.prog.info? 31 = some i ∧ i.zero = some (.agg #[.string ⟨#[]⟩, .string ⟨#[]⟩]) ∧ i.size = 2 ∧ i.bytes = 32 := by
  have h : (Tryz.prog.info? 31).map (fun i => (i.zero, i.size, i.bytes)) = some (some (.agg #[.string ⟨#[]⟩, .string ⟨#[]⟩]), 2, 32) := by kernel_rfl
  obtain ⟨i, hi, hx⟩ := Option.map_eq_some_iff.1 h
  simp only [Prod.mk.injEq] at hx
  exact ⟨i, hi, hx⟩
/-- the hold, the items that it told, and what the scans told so far -/
structure ScX (VD : World → Nat → HO → List Nat → Prop) (V w : World) (B g : Nat) (s : HO) (its : List Item) (vi : Value) (got : List Item) (vg : Value) (m : Nat) : Prop where
  dx : DX VD V w (vg.ownBlock.toList ++ vi.ownBlock.toList) g s
  it : w.ownsRow 0 31 2 vi its.length (itemCells its)
  gt : w.ownsRow B 31 2 vg m (itemCells got)
  ap : ∀ q, vi.ownBlock = some q → q < B
  lo : V.heap.size ≤ B
  hi : B ≤ w.heap.size
theorem ScX.below (L : HoldLaws VD) {V w w1 : World} {B g m : Nat} {s : HO} {its got : List Item} {vi vg : Value} (h : ScX VD V w B g s its vi got vg m) (hb : Below w.heap.size w w1) : ScX VD V w1 B g s its vi got vg m :=
  ⟨h.dx.below L hb, (Touch.ofBelow (F := []) hb).row h.it (by simp), (Touch.ofBelow (F := []) hb).row h.gt (by simp), h.ap, h.lo, Nat.le_trans h.hi hb.size⟩
theorem ScX.len {V w : World} {B g m : Nat} {s : HO} {its got : List Item} {vi vg : Value} (h : ScX VD V w B g s its vi got vg m) : got.length = m := by
  have := h.gt.1
  rw [itemCells_length] at this
  omega
theorem ScX.did (L : HoldLaws VD) {V w : World} {B g m : Nat} {s : HO} {its got : List Item} {vi vg : Value} (h : ScX VD V w B g s its vi got vg m) (a : AK) (ha : a.Fit) (hk : s.k ≤ 1000) (h1 : s.g.l.length ≤ 1000) : Calls Tryz.prog 14 #[.pointer (some ⟨g, 0, none⟩), .agg a.cells] w fun e w' =>
    ∃ t s1 S, Did s a t s1 ∧ e = .returned (.agg (t.cells S)) ∧ w'.ownsRow w.heap.size 31 2 S t.its.length (itemCells t.its) ∧ ScX VD V w' B g s1 its vi got vg m := by
  refine (h.dx.do_ L a ha hk h1).mono ?_
  rintro e w' ⟨t, s1, S, h3, rfl, h4, h5, h6⟩
  exact ⟨t, s1, S, h3, rfl, h4, h5.less (fun q hq => List.mem_append_right _ hq), h6.row h.it (fun q hq => List.mem_append_right _ (by simp [hq])), h6.row h.gt (fun q hq => List.mem_append_left _ (by simp [hq])), h.ap, h.lo, Nat.le_trans h.hi h6.size⟩
theorem ScX.grow (L : HoldLaws VD) {V w w1 : World} {B g m m1 : Nat} {s : HO} {its got got1 : List Item} {vi vg vg1 : Value} (h : ScX VD V w B g s its vi got vg m) (hg : w.grownBy w1 vg.ownBlock) (hs : SameOrNew w vg vg1) (hr : w1.ownsRow B 31 2 vg1 m1 (itemCells got1)) : ScX VD V w1 B g s its vi got1 vg1 m1 := by
  have t : Touch vg.ownBlock.toList w w1 := (Touch.refl _ _).grown hg (fun k hk => .inl (by simp [hk]))
  have ho : ∀ q ∈ vg.ownBlock.toList, B ≤ q := fun q hq => (h.gt.lt q (by simpa using hq)).1
  obtain ⟨x, ⟨F, b, c⟩, d⟩ := h.dx
  have hlo := h.lo
  refine ⟨⟨Touch.acc x t (fun q hq => Nat.le_trans hlo (ho q hq)), ⟨F, L.touch b t (fun q hq z => (c q hq).2 (List.mem_append_left _ z)), fun q hq => ⟨(c q hq).1, fun z => ?_⟩⟩, fun q hq => ?_⟩, t.row h.it (fun q hq z => ?_), hr, h.ap, hlo, Nat.le_trans h.hi t.size⟩
  · rcases List.mem_append.1 z with z | z
    · rcases hs q (by simpa using z) with y | y
      · exact (c q hq).2 (List.mem_append_left _ (by simp [y]))
      · have := (L.has_ b).2 q hq
        omega
    · exact (c q hq).2 (List.mem_append_right _ z)
  · rcases List.mem_append.1 hq with z | z
    · exact (hr.lt q (by simpa using z)).2
    · exact Nat.lt_of_lt_of_le (d q (List.mem_append_right _ z)) t.size
  · have := h.ap q hq
    have := ho q z
    omega
theorem hn_box {w w1 : World} {v : Value} {q : Nat} {a b c d e f : Value} (h : Six w q a b c d e f) (hg : w.grownBy w1 v.ownBlock) (hq : ∀ k, v.ownBlock = some k → k ≠ q) : Six w1 q a b c d e f :=
  h.kept (P := [q]) ⟨v.ownBlock.toList, (Touch.refl _ _).grown hg (fun k hk => .inl (by simp [hk])), fun x hx z => by
    simp at hx
    subst hx
    exact hq _ (by simpa using z) rfl⟩ (by simp)
theorem hn_mem {W : World} {base e size c n : Nat} {A : Option Addr} {xs : List Value} (h : W.ownsRow base e size (.slice A n c) n xs) (hn : 1 ≤ n) : ∃ q, A = some ⟨q, 0, none⟩ := by
  rcases h.2 with ⟨_, h1⟩ | ⟨g, cap, cur, h0, _⟩
  · omega
  · injection h0 with h1 _ _
    exact ⟨g, h1⟩
/-- why it need not be told, as the program sees it -/
theorem hn_not {fr at_ tt xk xv : ByteArray} (h : Hd.toldB fr at_ tt (xk, xv) = false) :
    Op.bytesLess xk.toList fr.toList = true ∨ (Op.bytesLess xk.toList fr.toList = false ∧ Op.bytesLess xk.toList at_.toList = false) ∨
    (Op.bytesLess xk.toList fr.toList = false ∧ Op.bytesLess xk.toList at_.toList = true ∧ (tt.toList == []) = false ∧ tt.toList.isEmpty = false ∧ ¬ tt.toList = [] ∧ Op.bytesLess xk.toList tt.toList = false) := by
  rcases Hd.toldB_not h with h1 | ⟨h1, h2⟩ | ⟨h1, h2, h3, h4⟩
  · exact .inl h1
  · exact .inr (.inl ⟨h1, h2⟩)
  · have h5 : ¬ tt.toList = [] := fun e => h3 (by
      have : tt.toList.length = 0 := by rw [e]; rfl
      rw [Lib.toList_data] at this
      simpa using this)
    exact .inr (.inr ⟨h1, h2, beq_eq_false_iff_ne.2 h5, by cases z : tt.toList with | nil => exact absurd z h5 | cons => rfl, h5, h4⟩)
set_option maxRecDepth 20000 in
set_option maxHeartbeats 8000000 in
theorem holdScans_any (L : HoldLaws VD) (A0 : Option Addr) (c0 n : Nat) (zs : List Item) (f t : Nat) (fr tt : ByteArray) (mo : Int) (W : World) (hA : ∃ b off, ∀ i (h : i < zs.length), A0 = some ⟨b, off, none⟩ ∧ b < W.heap.size ∧ W.cell? ⟨b, off + i * 2, none⟩ = some (.string (zs[i]).1) ∧ W.cell? ⟨b, off + i * 2 + 1, none⟩ = some (.string (zs[i]).2)) (hn : zs.length = n)
    (hf : f < 18446744073709551616) (ht : t < 18446744073709551616) :
    Calls Tryz.prog 3 #[.slice A0 n c0, .agg #[.int .u64 (f : Nat), .int .u64 (t : Nat)], .string fr, .string tt, .int .i64 mo] W fun e w' => e = .returned (.bool true) ∧ Below W.heap.size W w' := by
  have CA := Lib.hid (holdAlive_any L)
  obtain ⟨V, hV⟩ : ∃ V, W.alloc (.cells #[.int .u64 (f : Nat), .int .u64 (t : Nat)] 25) = V := ⟨_, rfl⟩
  have HBV : Hid (Below W.heap.size W V) := by rw [← hV]; exact (Below.refl _ _).alloc (Nat.le_refl _) _
  have HSS : Hid (∀ w, Below V.heap.size V w → w.cell? ⟨W.heap.size, 0, none⟩ = some (.int .u64 (f : Nat)) ∧ w.cell? ⟨W.heap.size, 1, none⟩ = some (.int .u64 (t : Nat))) := fun w hw => by
    have hlt : W.heap.size < V.heap.size := by rw [← hV]; simp
    have g0 : V.cell? ⟨W.heap.size, 0, none⟩ = some (.int .u64 (f : Nat)) := by rw [← hV]; exact hn_two0 _ _ _ _
    have g1 : V.cell? ⟨W.heap.size, 1, none⟩ = some (.int .u64 (t : Nat)) := by rw [← hV]; exact hn_two1 _ _ _ _
    exact ⟨(hw.cell (p := ⟨W.heap.size, 0, none⟩) hlt).trans g0, (hw.cell (p := ⟨W.heap.size, 1, none⟩) hlt).trans g1⟩
  have HAI : Hid (∃ b off, ∀ w, Below V.heap.size V w → ∀ i (h : i < zs.length), A0 = some ⟨b, off, none⟩ ∧ w.cell? ⟨b, off + i * 2, none⟩ = some (.string (zs[i]).1) ∧ w.cell? ⟨b, off + i * 2 + 1, none⟩ = some (.string (zs[i]).2)) := by
    obtain ⟨b, off, h⟩ := hA
    refine ⟨b, off, fun w hw i hi => ?_⟩
    obtain ⟨h1, h2, h3, h4⟩ := h i hi
    have hB := acc HBV.out hw
    exact ⟨h1, (hB.cell (p := ⟨b, off + i * 2, none⟩) h2).trans h3, (hB.cell (p := ⟨b, off + i * 2 + 1, none⟩) h2).trans h4⟩
  have HV := Lib.hid hV
  have HN := Lib.hid hn
  clear hA hV hn
  by_cases q0 : 40 < n
  · have d0 : decide (40 < (n : Int)) = true := decide_eq_true (by omega)
    go_enter Tryz.func3, Tryz.ntmps3
    go_upto_region 1 with fail
    rw [HV.out]
    go_wp2_with (go_at_call 11; (with_reducible refine (CA.out _).mono ?_); rintro e w1 ⟨rfl, h1⟩)
    go_ret
    exact ⟨rfl, acc HBV.out h1⟩
  have d0 : decide (40 < (n : Int)) = false := decide_eq_false (by omega)
  by_cases q1 : 16 < fr.size
  · have d1 : decide (16 < (fr.size : Int)) = true := decide_eq_true (by omega)
    go_enter Tryz.func3, Tryz.ntmps3
    go_upto_region 1 with fail
    rw [HV.out]
    go_wp2_with (go_at_call 11; (with_reducible refine (CA.out _).mono ?_); rintro e w1 ⟨rfl, h1⟩)
    go_ret
    exact ⟨rfl, acc HBV.out h1⟩
  have d1 : decide (16 < (fr.size : Int)) = false := decide_eq_false (by omega)
  by_cases q2 : 40 < tt.size
  · have d2 : decide (40 < (tt.size : Int)) = true := decide_eq_true (by omega)
    go_enter Tryz.func3, Tryz.ntmps3
    go_upto_region 1 with fail
    rw [HV.out]
    go_wp2_with (go_at_call 11; (with_reducible refine (CA.out _).mono ?_); rintro e w1 ⟨rfl, h1⟩)
    go_ret
    exact ⟨rfl, acc HBV.out h1⟩
  have d2 : decide (40 < (tt.size : Int)) = false := decide_eq_false (by omega)
  by_cases q3 : mo < 1
  · have d3 : decide (mo < 1) = true := decide_eq_true (by omega)
    go_enter Tryz.func3, Tryz.ntmps3
    go_upto_region 1 with fail
    rw [HV.out]
    go_wp2_with (go_at_call 11; (with_reducible refine (CA.out _).mono ?_); rintro e w1 ⟨rfl, h1⟩)
    go_ret
    exact ⟨rfl, acc HBV.out h1⟩
  have d3 : decide (mo < 1) = false := decide_eq_false (by omega)
  by_cases q4 : 40 < mo
  · have d4 : decide (40 < mo) = true := decide_eq_true (by omega)
    go_enter Tryz.func3, Tryz.ntmps3
    go_upto_region 1 with fail
    rw [HV.out]
    go_wp2_with (go_at_call 11; (with_reducible refine (CA.out _).mono ?_); rintro e w1 ⟨rfl, h1⟩)
    go_ret
    exact ⟨rfl, acc HBV.out h1⟩
  have d4 : decide (40 < mo) = false := decide_eq_false (by omega)
  obtain ⟨mm, rfl⟩ : ∃ mm : Nat, mo = mm := ⟨mo.toNat, by omega⟩
  have C0 : Hid (∀ w, Below V.heap.size V w → Calls Tryz.prog 12 #[.int .i64 1, .int .i64 200] w fun e w' => ∃ g, e = .returned (.pointer (some ⟨g, 0, none⟩)) ∧ DX VD V w' [] g (HO.new 1 200)) := fun w hw => by
    refine (DX.new (P := []) L 1 200 hw (by simp) ⟨by decide, by decide⟩ ⟨by decide, by decide⟩).mono ?_
    rintro e w' ⟨g, rfl, h, -⟩
    exact ⟨g, rfl, h⟩
  have C1 : Hid (∀ w g, DX VD V w [] g (HO.new 1 200) → Calls Tryz.prog 13 #[.pointer (some ⟨g, 0, none⟩), .agg #[.int .u64 (f : Nat), .int .u64 (t : Nat)], .int .i64 1] w fun e w' => e = .returned (.bool true) ∧ DX VD V w' [] g (Hd.Os f t [])) := fun w g h => by
    refine (h.own L f t 1 hf ht ⟨by decide, by decide⟩ (by decide)).mono ?_
    rintro e w' (⟨-, rfl, h1, -⟩ | ⟨h1, -⟩)
    · exact ⟨rfl, h1⟩
    · exact absurd (HO.may_new (by decide)) h1
  have CD : Hid (∀ w g its x y, x.size ≤ 40 → y.size ≤ 40 → DX VD V w [] g (Hd.Os f t its) → Calls Tryz.prog 14 #[.pointer (some ⟨g, 0, none⟩), .agg #[.int .i64 2, .string x, .string y, .string ⟨#[]⟩, .int .i64 0]] w fun e w' => ∃ r its', e = .returned r ∧ its'.length ≤ its.length + 1 ∧ DX VD V w' [] g (Hd.Os f t its')) := fun w g its x y hx hy h => by
    refine (h.do_ L ⟨2, x, y, ⟨#[]⟩, 0⟩ ⟨⟨by simp, by simp⟩, by show x.size ≤ maxLen; unfold maxLen; omega, by show y.size ≤ maxLen; unfold maxLen; omega, Nat.zero_le _, ⟨by simp, by simp⟩⟩ (by show 1 ≤ 1000; decide) (by show 0 ≤ 1000; decide)).mono ?_
    rintro e w' ⟨t, s1, S, hd, rfl, ho, hx, -⟩
    obtain ⟨its', rfl, hl⟩ := Hd.Os_do hd
    exact ⟨_, its', rfl, hl, hx.less (by simp)⟩
  go_enter Tryz.func3, Tryz.ntmps3
  go_upto_region 1 with fail
  rw [HV.out]
  clear HV
  go_wp2_with (first
    | (go_at_call 11; (with_reducible refine (CA.out _).mono ?_); rintro e w1 ⟨rfl, h1⟩; have H1 := Lib.hid h1; clear h1)
    | (go_at_call 12; (with_reducible refine (C0.out _ H1.out).mono ?_); rintro e w2 ⟨g, rfl, x2⟩; have X2 := Lib.hid x2; clear x2; obtain ⟨a0, a1⟩ := HSS.out _ X2.out.base)
    | (go_at_call 13; (with_reducible refine (C1.out _ _ X2.out).mono ?_); rintro e w3 ⟨rfl, x3⟩; have X3 := Lib.hid x3; clear x3 a0 a1))
  clear CA C0 C1
  go_loopg [12] (n + 1) (fun gh s12 wx => ∃ (i : Nat) (its : List Item), i + gh = n + 1 ∧ i ≤ n ∧ its.length ≤ i ∧ s12 = .int .i64 (i : Nat) ∧ Hid (DX VD V wx [] g (Hd.Os f t its)))
  case atStart => exact ⟨0, [], by omega, by omega, Nat.le_refl _, rfl, X3⟩
  case round =>
    clear X3 X2 H1
    obtain ⟨i, its, hig, hi, hli, rfl, HX⟩ := hrel
    by_cases hlt : i < n
    · have i1 : (i : Int) < (n : Int) := by omega
      have zi : IntKind.i64.wrap ((i : Int) + 1) = (i : Int) + 1 := by rw [IntKind.wrap_i64]; omega
      obtain ⟨b, o, ha⟩ := HAI.out
      obtain ⟨rfl, e1, e2⟩ := ha _ HX.out.base i (by rw [HN.out]; exact hlt)
      have HSI : Hid (∀ w, Below V.heap.size V w → w.cell? ⟨b, o + i * 2, none⟩ = some (.string (zs[i]'(by rw [HN.out]; exact hlt)).1) ∧ w.cell? ⟨b, o + i * 2 + 1, none⟩ = some (.string (zs[i]'(by rw [HN.out]; exact hlt)).2)) := fun w hw => (ha w hw i (by rw [HN.out]; exact hlt)).2
      generalize zs[i]'(by rw [HN.out]; exact hlt) = x at e1 e2 HSI
      obtain ⟨xk, xv⟩ := x
      dsimp only at e1 e2 HSI
      clear ha
      by_cases p1 : 40 < xk.size
      · have p2 : decide (40 < (xk.size : Int)) = true := decide_eq_true (by omega)
        go_wp2_with fail
        go_ret
        exact ⟨rfl, acc HBV.out HX.out.base⟩
      · have p2 : decide (40 < (xk.size : Int)) = false := decide_eq_false (by omega)
        by_cases p3 : 40 < xv.size
        · have p4 : decide (40 < (xv.size : Int)) = true := decide_eq_true (by omega)
          go_wp2_with fail
          go_ret
          exact ⟨rfl, acc HBV.out HX.out.base⟩
        · have p4 : decide (40 < (xv.size : Int)) = false := decide_eq_false (by omega)
          go_upto_region 11 with fail
          refine wp_region_held_drew (S := (fun w0 => Below V.heap.size V w0 ∧ w0.cell? ⟨b, o + i * 2, none⟩ = some (.string xk) ∧ w0.cell? ⟨b, o + i * 2 + 1, none⟩ = some (.string xv))) (by kernel_rfl) ?_ (fun hHeld => ?_)
          · (try dsimp only); exact ⟨HX.out.base.drew, HSI.out _ HX.out.base.drew⟩
          refine wpAnyH_take (i := 0) (oi := ⟨_, _, _, _, _, _⟩) (v := ?_) rfl (by kernel_rfl) (by kernel_rfl) (by kernel_rfl) (fun _ _ _ h => h) (Or.inl ⟨by rfl, ?_⟩) (by assumption) ?_
          rotate_left
          · (intro wS hSw; (try dsimp only at hSw); go_simp <;> with_reducible rfl)
          try simp only [Act.put, List.setIfInBounds_toArray, List.set_cons_zero, List.set_cons_succ]
          refine wpAnyH_take (i := 1) (oi := ⟨_, _, _, _, _, _⟩) (v := ?_) rfl (by kernel_rfl) (by kernel_rfl) (by kernel_rfl) (fun _ _ _ h => h) (Or.inl ⟨by rfl, ?_⟩) (by assumption) ?_
          rotate_left
          · (intro wS hSw; (try dsimp only at hSw); go_simp <;> with_reducible rfl)
          try simp only [Act.put, List.setIfInBounds_toArray, List.set_cons_zero, List.set_cons_succ]
          refine wpAnyH_take (i := 2) (oi := ⟨_, _, _, _, _, _⟩) (v := ?_) rfl (by kernel_rfl) (by kernel_rfl) (by kernel_rfl) (fun _ _ _ h => h) (Or.inl ⟨by rfl, ?_⟩) (by assumption) ?_
          rotate_left
          · (intro wS hSw; (try dsimp only at hSw); go_simp <;> with_reducible rfl)
          try simp only [Act.put, List.setIfInBounds_toArray, List.set_cons_zero, List.set_cons_succ]
          refine wpAnyH_take (i := 3) (oi := ⟨_, _, _, _, _, _⟩) (v := ?_) rfl (by kernel_rfl) (by kernel_rfl) (by kernel_rfl) (fun _ _ _ h => h) (Or.inl ⟨by rfl, ?_⟩) (by assumption) ?_
          rotate_left
          · (intro wS hSw; (try dsimp only at hSw); go_simp <;> with_reducible rfl)
          try simp only [Act.put, List.setIfInBounds_toArray, List.set_cons_zero, List.set_cons_succ]
          refine wpAnyH_take (i := 4) (oi := ⟨_, _, _, _, _, _⟩) (v := ?_) rfl (by kernel_rfl) (by kernel_rfl) (by kernel_rfl) (fun _ _ _ h => h) (Or.inl ⟨by rfl, ?_⟩) (by assumption) ?_
          rotate_left
          · (intro wS hSw; (try dsimp only at hSw); go_simp <;> with_reducible rfl)
          try simp only [Act.put, List.setIfInBounds_toArray, List.set_cons_zero, List.set_cons_succ]
          refine wpAnyH_take (i := 5) (oi := ⟨_, _, _, _, _, _⟩) (v := ?_) rfl (by kernel_rfl) (by kernel_rfl) (by kernel_rfl) (fun _ _ _ h => h) (Or.inl ⟨by rfl, ?_⟩) (by assumption) ?_
          rotate_left
          · (intro wS hSw; (try dsimp only at hSw); go_simp <;> with_reducible rfl)
          try simp only [Act.put, List.setIfInBounds_toArray, List.set_cons_zero, List.set_cons_succ]
          refine wpAnyH_take (i := 6) (oi := ⟨_, _, _, _, _, _⟩) (v := ?_) rfl (by kernel_rfl) (by kernel_rfl) (by kernel_rfl) (fun _ _ _ h => h) (Or.inl ⟨by rfl, ?_⟩) (by assumption) ?_
          rotate_left
          · (intro wS hSw; (try dsimp only at hSw); go_simp <;> with_reducible rfl)
          try simp only [Act.put, List.setIfInBounds_toArray, List.set_cons_zero, List.set_cons_succ]
          refine wpAnyH_take (i := 7) (oi := ⟨_, _, _, _, _, _⟩) (v := ?_) rfl (by kernel_rfl) (by kernel_rfl) (by kernel_rfl) (fun _ _ _ h => h) (Or.inl ⟨by rfl, ?_⟩) (by assumption) ?_
          rotate_left
          · (intro wS hSw; (try dsimp only at hSw); go_simp <;> with_reducible rfl)
          try simp only [Act.put, List.setIfInBounds_toArray, List.set_cons_zero, List.set_cons_succ]
          refine wpAnyH_take (i := 8) (oi := ⟨_, _, _, _, _, _⟩) (v := ?_) rfl (by kernel_rfl) (by kernel_rfl) (by kernel_rfl) (fun _ _ _ h => h) (Or.inl ⟨by rfl, ?_⟩) (by assumption) ?_
          rotate_left
          · (intro wS hSw; (try dsimp only at hSw); go_simp <;> with_reducible rfl)
          try simp only [Act.put, List.setIfInBounds_toArray, List.set_cons_zero, List.set_cons_succ]
          refine wpAnyH_take (i := 9) (oi := ⟨_, _, _, _, _, _⟩) (v := ?_) rfl (by kernel_rfl) (by kernel_rfl) (by kernel_rfl) (fun _ _ _ h => h) (Or.inl ⟨by rfl, ?_⟩) (by assumption) ?_
          rotate_left
          · (intro wS hSw; (try dsimp only at hSw); go_simp <;> with_reducible rfl)
          try simp only [Act.put, List.setIfInBounds_toArray, List.set_cons_zero, List.set_cons_succ]
          refine wpAnyH_take (i := 10) (oi := ⟨_, _, _, _, _, _⟩) (v := ?_) rfl (by kernel_rfl) (by kernel_rfl) (by kernel_rfl) (fun _ _ _ h => h) (Or.inl ⟨by rfl, ?_⟩) (by assumption) ?_
          rotate_left
          · (intro wS hSw; (try dsimp only at hSw); go_simp <;> with_reducible rfl)
          try simp only [Act.put, List.setIfInBounds_toArray, List.set_cons_zero, List.set_cons_succ]
          refine wpAnyH_take (i := 11) (oi := ⟨_, _, _, _, _, _⟩) (v := ?_) rfl (by kernel_rfl) (by kernel_rfl) (by kernel_rfl) (fun _ _ _ h => h) (Or.inl ⟨by rfl, ?_⟩) (by assumption) ?_
          rotate_left
          · (intro wS hSw; (try dsimp only at hSw); go_simp <;> with_reducible rfl)
          try simp only [Act.put, List.setIfInBounds_toArray, List.set_cons_zero, List.set_cons_succ]
          refine wpAnyH_ready (rs := [12]) (by kernel_rfl) (by simp) ?_
          refine AllReadyH.cons (o := ⟨_, _, _, _, _, _⟩) rfl (fun K hK => ?_) AllReadyH.nil
          go_simp
          go_at_call 14
          (with_reducible refine (CD.out _ _ its xk xv (by omega) (by omega) (HX.out.below L (Below.refl _ _).drew)).mono ?_)
          rintro e w4 ⟨r4, its4, rfl, l4, x4⟩
          have X4 := Lib.hid x4
          clear x4
          go_wp2_with fail
          refine hK.out _ _ (by (try dsimp only); exact ⟨X4.out.base, HSI.out _ X4.out.base⟩) (fun hHeld => ?_)
          clear hK K
          try simp only [Act.put, List.setIfInBounds_toArray, List.set_cons_zero, List.set_cons_succ]
          refine wpAnyH_done (by kernel_rfl) ?_ _
          go_wp2_with fail
          go_roundg (gk - 1)
          case measure => omega
          case rel => exact ⟨i + 1, its4, by omega, by omega, by omega, by go_num, X4⟩
    · have i1 : ¬ (i : Int) < (n : Int) := by omega
      have hm40 : its.length ≤ 40 := by omega
      clear hig hi hlt CD HAI HN
      have hris : Rising its ∧ ∀ x ∈ its, rightN x.1 = 0 ∧ valueN x.2 = 0 := by
        obtain ⟨_, ⟨F, b, _⟩, _⟩ := HX.out
        exact L.rising b
      have CI : Hid (∀ w P s, s.its = its → DX VD V w P g s → Calls Tryz.prog 15 #[.pointer (some ⟨g, 0, none⟩)] w fun e w' => ∃ A c, e = .returned (.slice A its.length c) ∧ w'.ownsRow w.heap.size 31 2 (.slice A its.length c) its.length (itemCells its) ∧ Below w.heap.size w w') := fun w P s hs h => by
        obtain ⟨_, ⟨F, b, _⟩, _⟩ := h
        refine (L.items b).mono ?_
        rintro e w' ⟨S, rfl, ho, hb⟩
        rw [hs] at ho
        obtain ⟨A, c, rfl⟩ := own_slice ho
        exact ⟨A, c, rfl, ho, hb⟩
      go_upto_block 2 with (go_at_call 15; (with_reducible refine (CI.out _ _ _ rfl HX.out).mono ?_); rintro e w5 ⟨A5, c5, rfl, r5, h5⟩; have R5 := Lib.hid r5; have H5 := Lib.hid h5; clear r5 h5)
      have SX0 : Hid (ScX VD V w5 w5.heap.size g (Hd.Os f t its) its (.slice A5 its.length c5) [] (.slice none 0 0) 0) := by
        have x := (HX.out.more L H5.out (Q := (Value.slice A5 its.length c5).ownBlock.toList) (fun q hq => R5.out.lt q (by simpa using hq))).less (Q := (Value.slice none 0 0).ownBlock.toList ++ (Value.slice A5 its.length c5).ownBlock.toList) (fun q hq => List.mem_append_left _ ((List.mem_append.1 hq).elim (fun z => absurd z (by show ¬ q ∈ ([] : List Nat); simp)) id))
        exact ⟨x, hn_lower R5.out (Nat.zero_le _), World.ownsRow_nil _ _ _ _, fun q hq => (R5.out.lt q hq).2, x.base.size, Nat.le_refl _⟩
      obtain ⟨B, hB⟩ : ∃ B, w5.heap.size = B := ⟨_, rfl⟩
      rw [hB] at SX0
      have HRI := Lib.hid hris
      obtain ⟨ni, hni⟩ : ∃ ni, its.length = ni := ⟨_, rfl⟩
      rw [hni] at SX0 hm40 ⊢
      have HNI := Lib.hid hni
      clear hris CI R5 H5 hB HX hni
      go_cut [14, 15] (fun s14 s15 wx => ∃ (at_ : ByteArray) (got : List Item) (AG : Option Addr) (mG cG : Nat), s14 = .string at_ ∧ s15 = .slice AG mG cG ∧ Hid (Hd.Ended its fr at_ tt got) ∧ Hid (ScX VD V wx B g (Hd.Os f t its) its (.slice A5 ni c5) got (.slice AG mG cG) mG))
      case first =>
        go_wp2_with fail
        go_loopg [14, 15, 16, 17] 61 (fun gh s14 s15 s16 s17 wx => ∃ (nn : Nat) (at_ : ByteArray) (got : List Item) (AG : Option Addr) (mG cG : Nat), nn + gh = 61 ∧ s14 = .string at_ ∧ s15 = .slice AG mG cG ∧ s16 = .int .i64 (nn : Nat) ∧ at_.size ≤ 16 ∧ Hid (Hd.Sc its fr at_ tt got) ∧ Hid (ScX VD V wx B g (Hd.Os f t its) its (.slice A5 ni c5) got (.slice AG mG cG) mG) ∧ Hid ((nn + Hd.left_ its at_ tt ≤ 40 ∨ ((Hd.Os f t its).own (addrN at_) = none ∧ nn ≤ 41)) ∧ nn ≤ 41))
        case atStart =>
          refine ⟨0, fr, [], none, 0, 0, by omega, rfl, rfl, rfl, by omega, Hd.Sc.start HRI.out.1 fr tt, SX0, ⟨.inl ?_, by omega⟩⟩
          have := List.length_filter_le (fun x => !lessB x.1 fr && Hd.tillB tt x) its
          have := HNI.out
          unfold Hd.left_
          omega
        case round =>
          clear SX0
          obtain ⟨nn, at_, got, AG, mG, cG, hng, rfl, rfl, rfl, hat, HSC, HX, HBD⟩ := hrel
          have hn41 := HBD.out.2
          have n60 : (nn : Int) ≤ 60 := by omega
          have n60' : ((nn : Int) == 60) = false := by rw [beq_eq_false_iff_ne]; omega
          have zn : IntKind.i64.wrap ((nn : Int) + 1) = (nn : Int) + 1 := by rw [IntKind.wrap_i64]; omega
          have hmg : mG ≤ 40 := by
            have e1 := HX.out.len
            rw [HSC.out.told] at e1
            have := List.length_filter_le (Hd.toldB fr at_ tt) its
            have := HNI.out
            omega
          have CS : Hid (Calls Tryz.prog 14 #[.pointer (some ⟨g, 0, none⟩), .agg #[.int .i64 4, .string at_, .string ⟨#[]⟩, .string tt, .int .i64 (mm : Nat)]] wr fun e w' => ∃ (er : Int) (val : ByteArray) (A : Option Addr) (c o : Nat) (nx : ByteArray) (ms : List Item) (more : Bool) (nd : Int), e = .returned (.agg #[.int .i64 er, .string val, .slice A o c, .bool more, .string nx, .int .i64 nd]) ∧ ms.length = o ∧ w'.ownsRow 0 31 2 (.slice A o c) o (itemCells ms) ∧ Hd.OutS f t its fr at_ tt got mm ⟨er, val, ms, more, nx, nd⟩ ∧ ScX VD V w' B g (Hd.Os f t its) its (.slice A5 ni c5) got (.slice AG mG cG) mG) := by
            refine (HX.out.did L ⟨4, at_, ⟨#[]⟩, tt, (mm : Nat)⟩ ⟨⟨by simp, by simp⟩, by show at_.size ≤ maxLen; unfold maxLen; omega, Nat.zero_le _, by show tt.size ≤ maxLen; unfold maxLen; omega, by show -9223372036854775808 ≤ (mm : Int) ∧ (mm : Int) ≤ 9223372036854775807; omega⟩ (by show 1 ≤ 1000; decide) (by show 0 ≤ 1000; decide)).mono ?_
            rintro e w' ⟨tl, s1, S, hd, rfl, ho, hx⟩
            obtain ⟨er, val, ms, more, nx, nd⟩ := tl
            obtain ⟨hout, rfl⟩ := Hd.scan_out hd HSC.out (fun x hx => (HRI.out.2 x hx).1) hat (by omega) (by omega)
            obtain ⟨A, c, rfl⟩ := own_slice ho
            exact ⟨er, val, A, c, _, nx, ms, more, nd, rfl, rfl, hn_lower ho (Nat.zero_le _), hout, hx⟩
          go_upto_region 19 with (go_at_call 14; (with_reducible refine CS.out.mono ?_); rintro e w6 ⟨er, val, A6, c6, o, nx, ms, more, nd, rfl, hms, r6, hout, x6⟩; have X6 := Lib.hid x6; have R6 := Lib.hid r6; have HOUT := Lib.hid hout; have HMS := Lib.hid hms; clear x6 r6 hout hms)
          obtain ⟨wa, hwa⟩ : ∃ w, w6.alloc (.cells #[.int .i64 er, .string val, .slice A6 o c6, .bool more, .string nx, .int .i64 nd] 34) = w := ⟨_, rfl⟩
          have BA : Hid (Below w6.heap.size w6 wa) := by rw [← hwa]; exact (Below.refl _ _).alloc (Nat.le_refl _) _
          have cb : Six wa w6.heap.size (.int .i64 er) (.string val) (.slice A6 o c6) (.bool more) (.string nx) (.int .i64 nd) := by rw [← hwa]; exact Six.new _ _ _ _ _ _ _ _
          have X7 := Lib.hid (X6.out.below L BA.out)
          have R7 := Lib.hid ((Touch.ofBelow (F := []) BA.out).row R6.out (by simp))
          have HQ : Hid (∀ k, (Value.slice AG mG cG).ownBlock = some k → k ≠ w6.heap.size) := fun k hk => Nat.ne_of_lt (X6.out.gt.lt k hk).2
          rw [hwa]
          obtain ⟨qx, hqx⟩ : ∃ q, w6.heap.size = q := ⟨_, rfl⟩
          rw [hqx] at cb HQ ⊢
          have CB := Lib.hid cb
          clear hwa hqx BA X6 R6 CS HX
          obtain ⟨b0, b1, b2, b3, b4, b5⟩ := cb
          rcases HOUT.out with ⟨z1, z2⟩ | ⟨z1, z2, z3, z4⟩
          · obtain rfl : er = 8 := z1
            go_wp2_with fail
            go_meet
            exact ⟨at_, got, AG, mG, cG, rfl, rfl, HSC.out.ended, X7⟩
          · obtain rfl : er = 0 := z1
            have hz3 : ms.length ≤ mm := z3
            rw [HMS.out] at hz3
            have hlen1 : ¬ (mm : Int) < (o : Int) := by omega
            have hlen2 : decide ((mm : Int) < (o : Int)) = false := decide_eq_false hlen1
            obtain ⟨i0, hi0, hz0, hs0, hb0⟩ := hn_infoItems
            rcases z4 with ⟨y1, y2⟩ | ⟨y1, y2, y3, y4, y5⟩
            · obtain rfl : more = false := y1
              have HE := Lib.hid y2
              clear y2
              go_wp2_with (at_builtin; ((refine wpList_append_any rfl (.tmp 117) (.tmp 119) 22 rfl B 31 i0 (.agg #[.string ⟨#[]⟩, .string ⟨#[]⟩]) 2 32 Tryz.underlying22 hi0 hz0 hs0 hb0 rfl (by decide) (.slice AG mG cG) mG (itemCells got) rfl X7.out.gt (.slice A6 o c6) o (itemCells ms) rfl (From.own R7.out) (items_one _) (by unfold maxLen; omega) (by omega) X7.out.hi ?_); intro A8 c8 w8 ho8 hg8 hs8; have X8 : Hid (ScX VD V w8 B g (Hd.Os f t its) its (.slice A5 ni c5) (got ++ ms) (.slice A8 (mG + o) c8) (mG + o)) := X7.out.grow L hg8 hs8 (by rw [itemCells_append]; exact ho8); obtain ⟨d0, d1, d2, d3, d4, d5⟩ := hn_box CB.out hg8 HQ.out; clear ho8 hg8 hs8))
              go_meet
              exact ⟨at_, got ++ ms, A8, mG + o, c8, rfl, rfl, HE, X8⟩
            · obtain rfl : more = true := y1
              have hl : lessB at_ nx = true := y2
              have le1 : Op.bytesLess nx.toList at_.toList = false := lessB_asymm hl
              have le2 : (nx.toList == at_.toList) = false := beq_eq_false_iff_ne.2 fun e => by
                rw [toList_inj e, lessB_irrefl] at hl
                cases hl
              have hnx : nx.size ≤ 16 := y3
              have HS4 : Hid (Hd.Sc its fr nx tt (got ++ ms)) := y4
              have HB5 : Hid (Hd.left_ its nx tt + 1 ≤ Hd.left_ its at_ tt ∨ (Hd.Os f t its).own (addrN nx) = none) := y5
              have HOW := Lib.hid z2
              clear y2 y3 y4 y5 z2
              go_wp2_with (at_builtin; ((refine wpList_append_any rfl (.tmp 117) (.tmp 119) 22 rfl B 31 i0 (.agg #[.string ⟨#[]⟩, .string ⟨#[]⟩]) 2 32 Tryz.underlying22 hi0 hz0 hs0 hb0 rfl (by decide) (.slice AG mG cG) mG (itemCells got) rfl X7.out.gt (.slice A6 o c6) o (itemCells ms) rfl (From.own R7.out) (items_one _) (by unfold maxLen; omega) (by omega) X7.out.hi ?_); intro A8 c8 w8 ho8 hg8 hs8; have X8 : Hid (ScX VD V w8 B g (Hd.Os f t its) its (.slice A5 ni c5) (got ++ ms) (.slice A8 (mG + o) c8) (mG + o)) := X7.out.grow L hg8 hs8 (by rw [itemCells_append]; exact ho8); obtain ⟨d0, d1, d2, d3, d4, d5⟩ := hn_box CB.out hg8 HQ.out; clear ho8 hg8 hs8))
              go_roundg (gk - 1)
              case measure => omega
              case rel =>
                refine ⟨nn + 1, nx, got ++ ms, A8, mG + o, c8, by omega, rfl, rfl, by go_num, hnx, HS4, X8, ?_⟩
                have h1 := HBD.out.1
                have h2 := HB5.out
                rcases h1 with h1 | ⟨h1, -⟩
                · rcases h2 with h2 | h2
                  · exact ⟨.inl (by omega), by omega⟩
                  · exact ⟨.inr ⟨h2, by omega⟩, by omega⟩
                · exact absurd h1 HOW.out
      case rest =>
        clear SX0
        obtain ⟨at_, got, AG, mG, cG, rfl, rfl, HE, HX⟩ := hcut
        obtain ⟨p, hp, hpt⟩ := HE.out
        have HP := Lib.hid hp
        have HT := Lib.hid hpt
        have hmg : mG ≤ 40 := by
          have e1 := HX.out.len
          rw [hp] at e1
          have := List.length_filter_le p its
          have := HNI.out
          omega
        clear hp hpt HE
        go_wp2_with fail
        go_loopg [18, 20, 140] (ni + 1) (fun gh s18 s20 s140 wx => ∃ (i kk : Nat), i + gh = ni + 1 ∧ i ≤ ni ∧ kk ≤ i ∧ s18 = .int .i64 (kk : Nat) ∧ s140 = .int .i64 (i : Nat) ∧ Hid (kk = ((its.take i).filter p).length) ∧ Hid (ScX VD V wx B g (Hd.Os f t its) its (.slice A5 ni c5) got (.slice AG mG cG) mG))
        case atStart => exact ⟨0, 0, by omega, by omega, Nat.le_refl _, rfl, rfl, rfl, HX⟩
        case round =>
          clear HX
          obtain ⟨i, kk, hig, hi, hki, rfl, rfl, HK, HX⟩ := hrel
          by_cases hlt : i < ni
          · have i1 : (i : Int) < (ni : Int) := by omega
            have zi : IntKind.i64.wrap ((i : Int) + 1) = (i : Int) + 1 := by rw [IntKind.wrap_i64]; omega
            have zk : IntKind.i64.wrap ((kk : Int) + 1) = (kk : Int) + 1 := by rw [IntKind.wrap_i64]; omega
            have hil : i < its.length := by rw [HNI.out]; exact hlt
            obtain ⟨x, hx⟩ : ∃ x, its[i]? = some x := ⟨_, List.getElem?_eq_getElem hil⟩
            have hr := HX.out.it
            rw [HNI.out] at hr
            obtain ⟨q, rfl⟩ := hn_mem hr (by omega)
            have ck := (hr.cellAt (i * 2) (by omega)).trans (itemCells_get0 its i hil)
            have cv := (hr.cellAt (i * 2 + 1) (by omega)).trans (itemCells_get1 its i hil)
            have ex : its[i] = x := by rw [List.getElem?_eq_getElem hil] at hx; exact Option.some.inj hx
            rw [ex] at ck cv
            have hM := Hd.match_at HRI.out.1 p hx
            have hC := Hd.count_step p hx
            rw [← HK.out, ← HP.out] at hM
            rw [← HK.out] at hC
            have hmem : x ∈ its := List.mem_of_getElem? hx
            have HTX := Lib.hid (HT.out x hmem)
            obtain ⟨xk, xv⟩ := x
            dsimp only at ck cv
            clear hr ex hx hmem hil
            have HM := Lib.hid hM
            have HC := Lib.hid hC
            clear hM hC
            go_upto_region 31 with fail
            obtain ⟨wa, hwa⟩ : ∃ w, wr.alloc (.cells #[.string xk, .string xv] 31) = w := ⟨_, rfl⟩
            have cx0 : wa.cell? ⟨wr.heap.size, 0, none⟩ = some (.string xk) := by rw [← hwa]; exact hn_two0 _ _ _ _
            have cx1 : wa.cell? ⟨wr.heap.size, 1, none⟩ = some (.string xv) := by rw [← hwa]; exact hn_two1 _ _ _ _
            have X2 := Lib.hid (HX.out.below L (by rw [← hwa]; exact (Below.refl _ _).alloc (Nat.le_refl _) _ : Below wr.heap.size wr wa))
            rw [hwa]
            obtain ⟨qx, hqx⟩ : ∃ q, wr.heap.size = q := ⟨_, rfl⟩
            rw [hqx] at cx0 cx1 ⊢
            clear hwa hqx HX ck cv
            cases hp1 : p (xk, xv) with
            | true =>
              have hg := HM.out.1 hp1
              have hgl : kk < got.length := (List.getElem?_eq_some_iff.1 hg).1
              have hkm : kk < mG := by rw [X2.out.len] at hgl; exact hgl
              have hr := X2.out.gt
              obtain ⟨qg, rfl⟩ := hn_mem hr (by omega)
              have eg : got[kk] = (xk, xv) := by rw [List.getElem?_eq_getElem hgl] at hg; exact Option.some.inj hg
              have gk0 := (hr.cellAt (kk * 2) (by omega)).trans (itemCells_get0 got kk hgl)
              have gk1 := (hr.cellAt (kk * 2 + 1) (by omega)).trans (itemCells_get1 got kk hgl)
              rw [eg] at gk0 gk1
              dsimp only at gk0 gk1
              have e1 : (xk.toList == xk.toList) = true := by simp
              have e2 : (xv.toList == xv.toList) = true := by simp
              have k1 : (kk : Int) < (mG : Int) := by omega
              have k2 : decide ((kk : Int) < (mG : Int)) = true := decide_eq_true k1
              clear hr eg hg hgl
              go_quiet (fail)
              go_wp2_with fail
              go_roundg (gk - 1)
              case measure => omega
              case rel => exact ⟨i + 1, kk + 1, by omega, by omega, by omega, by go_num, by go_num, (by show kk + 1 = _; rw [HC.out, if_pos hp1]), X2.out.below L ⟨rfl, rfl, rfl, Nat.le_refl _, fun _ _ => rfl⟩⟩
            | false =>
              have CT0 : Hid (kk = ((its.take (i + 1)).filter p).length) := by show kk = _; rw [HC.out, if_neg (by rw [hp1]; simp)]
              have hnt : Hd.toldB fr at_ tt (xk, xv) = false := by
                cases z : Hd.toldB fr at_ tt (xk, xv) with
                | false => rfl
                | true => rw [HTX.out z] at hp1; cases hp1
              have HN3 := Lib.hid (hn_not hnt)
              clear hnt
              by_cases hk : kk < mG
              · have hgl : kk < got.length := by rw [X2.out.len]; exact hk
                have hr := X2.out.gt
                obtain ⟨qg, rfl⟩ := hn_mem hr (by omega)
                have hne := HM.out.2 hp1 got[kk] (List.getElem?_eq_getElem hgl)
                have gk0 := (hr.cellAt (kk * 2) (by omega)).trans (itemCells_get0 got kk hgl)
                have gk1 := (hr.cellAt (kk * 2 + 1) (by omega)).trans (itemCells_get1 got kk hgl)
                generalize got[kk] = y at gk0 gk1 hne
                obtain ⟨yk, yv⟩ := y
                dsimp only at gk0 gk1 hne
                have e1 : (yk.toList == xk.toList) = false := beq_eq_false_iff_ne.2 fun e => hne (toList_inj e)
                have k1 : (kk : Int) < (mG : Int) := by omega
                have k2 : decide ((kk : Int) < (mG : Int)) = true := decide_eq_true k1
                clear hr hgl hne
                cases e2 : (yv.toList == xv.toList)
                all_goals
                  go_quiet (fail)
                  have X3 := Lib.hid (X2.out.below L (⟨rfl, rfl, rfl, Nat.le_refl _, fun _ _ => rfl⟩ : Below wa.heap.size wa (wa.drewN nq)))
                  rcases HN3.out with f1 | ⟨f1, f3⟩ | ⟨f1, f3, f4, f5, f6, f7⟩
                  · go_wp2_with fail
                    go_roundg (gk - 1)
                    case measure => omega
                    case rel => exact ⟨i + 1, kk, by omega, by omega, by omega, rfl, by go_num, CT0, X3⟩
                  · go_wp2_with fail
                    go_roundg (gk - 1)
                    case measure => omega
                    case rel => exact ⟨i + 1, kk, by omega, by omega, by omega, rfl, by go_num, CT0, X3⟩
                  · go_wp2_with fail
                    go_roundg (gk - 1)
                    case measure => omega
                    case rel => exact ⟨i + 1, kk, by omega, by omega, by omega, rfl, by go_num, CT0, X3⟩
              · have k1 : ¬ (kk : Int) < (mG : Int) := by omega
                have k2 : decide ((kk : Int) < (mG : Int)) = false := decide_eq_false k1
                go_quiet (fail)
                have X3 := Lib.hid (X2.out.below L (⟨rfl, rfl, rfl, Nat.le_refl _, fun _ _ => rfl⟩ : Below wa.heap.size wa (wa.drewN nq)))
                rcases HN3.out with f1 | ⟨f1, f3⟩ | ⟨f1, f3, f4, f5, f6, f7⟩
                · go_wp2_with fail
                  go_roundg (gk - 1)
                  case measure => omega
                  case rel => exact ⟨i + 1, kk, by omega, by omega, by omega, rfl, by go_num, CT0, X3⟩
                · go_wp2_with fail
                  go_roundg (gk - 1)
                  case measure => omega
                  case rel => exact ⟨i + 1, kk, by omega, by omega, by omega, rfl, by go_num, CT0, X3⟩
                · go_wp2_with fail
                  go_roundg (gk - 1)
                  case measure => omega
                  case rel => exact ⟨i + 1, kk, by omega, by omega, by omega, rfl, by go_num, CT0, X3⟩
          · obtain rfl : i = ni := by omega
            have i1 : ¬ (i : Int) < (i : Int) := by omega
            have hfin : kk = mG := by
              have h1 := HK.out
              have h2 := HX.out.len
              rw [List.take_of_length_le (by rw [HNI.out]; omega), ← HP.out] at h1
              omega
            subst hfin
            go_wp2_with fail
            go_ret
            exact ⟨by first | rfl | simp, acc HBV.out HX.out.dx.base⟩
end
end Go.Proofs.YthgndgoljchnfaaGreat
