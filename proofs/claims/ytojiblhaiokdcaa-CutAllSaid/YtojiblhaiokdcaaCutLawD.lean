/-
  CutAll: an arc that is cut out in parts, whichever first, leaves the same as the whole of it. (Written by tools/genCAll.py.)
-/
import Derived.Test.YtojiblhaiokdcaaCutBegin
import Derived.Test.YtojiblhaiokdcaaCutLawA
import Derived.Test.YtojiblhaiokdcaaCutLawC
import Derived.Test.YtojiblhaiokdcaaArcSplit
namespace Go.Proofs.Ytojiblhaiokdcaa
open Go.RowKit

section
variable {W V w w1 : World} {P : List Nat} {g1 g2 : Nat} {m1 m2 : Int} {l1 l2 : List Item}
theorem S2.less {Q : List Nat} (h : S2 W w P g1 m1 l1 g2 m2 l2) (hQ : ∀ q ∈ Q, q ∈ P) : S2 W w Q g1 m1 l1 g2 m2 l2 := by
  obtain ⟨a, F1, F2, b, c, d, e, f⟩ := h
  exact ⟨a, F1, F2, b, c, fun q hq => ⟨(d q hq).1, (d q hq).2.1, fun z => (d q hq).2.2 (hQ q z)⟩, fun q hq => ⟨(e q hq).1, fun z => (e q hq).2 (hQ q z)⟩, fun q hq => f q (hQ q hq)⟩
/-- from an elder world on, with blocks between that stay -/
theorem S2.rebase {Q : List Nat} (hb : Below W.heap.size W V) (hQ : ∀ q ∈ Q, q < V.heap.size) (h : S2 V w [] g1 m1 l1 g2 m2 l2) : S2 W w Q g1 m1 l1 g2 m2 l2 := by
  obtain ⟨a, F1, F2, b, c, d, e, _⟩ := h
  have s1 := hb.size
  have s2 := a.size
  exact ⟨acc hb a, F1, F2, b, c, fun q hq => ⟨Nat.le_trans s1 (d q hq).1, (d q hq).2.1, fun z => by have := hQ q z; have := (d q hq).1; omega⟩, fun q hq => ⟨Nat.le_trans s1 (e q hq).1, fun z => by have := hQ q z; have := (e q hq).1; omega⟩, fun q hq => by have := hQ q hq; omega⟩
/-- the caller writes what stays -/
theorem S2.write {G : List Nat} (h : S2 W w P g1 m1 l1 g2 m2 l2) (t : Touch G w w1) (hG : ∀ q ∈ G, q ∈ P ∧ W.heap.size ≤ q) : S2 W w1 P g1 m1 l1 g2 m2 l2 := by
  obtain ⟨a, F1, F2, b, c, d, e, f⟩ := h
  exact ⟨Touch.acc a t (fun q hq => (hG q hq).2), F1, F2, b.touch t (fun q hq z => (d q hq).2.2 (hG q z).1), c.touch t (fun q hq z => (e q hq).2 (hG q z).1), d, e, fun q hq => Nat.lt_of_lt_of_le (f q hq) t.size⟩
end
theorem Kp.var2 {Q : List Nat} {w w' : World} (k : Kp Q w w') {b : Nat} {x y : Value} (h : Var2 w b x y) (hb : b ∈ Q) : Var2 w' b x y := by
  obtain ⟨G, t, n⟩ := k
  exact h.touch t (n b hb)
/-- two filled shelves, and the arcs in their boxes -/
structure XA (W w : World) (bA bP bQ : Nat) (f t f1 t1 f2 t2 : Nat) (gs : Nat) (l1 : List Item) (gt : Nat) (l2 : List Item) : Prop where
  s : S2 W w [bA, bP, bQ] gs 200 l1 gt 200 l2
  va : Var2 w bA (.int .u64 (f : Nat)) (.int .u64 (t : Nat))
  vp : Var2 w bP (.int .u64 (f1 : Nat)) (.int .u64 (t1 : Nat))
  vq : Var2 w bQ (.int .u64 (f2 : Nat)) (.int .u64 (t2 : Nat))
section
variable {W w w1 : World} {bA bP bQ f t f1 t1 f2 t2 gs gt : Nat} {l1 l2 : List Item}
theorem XA.keep {k1 k2 : List Item} (h : XA W w bA bP bQ f t f1 t1 f2 t2 gs l1 gt l2) (k : Kp [bA, bP, bQ] w w1) (hs : S2 W w1 [bA, bP, bQ] gs 200 k1 gt 200 k2) : XA W w1 bA bP bQ f t f1 t1 f2 t2 gs k1 gt k2 :=
  ⟨hs, k.var2 h.va (by simp), k.var2 h.vp (by simp), k.var2 h.vq (by simp)⟩
theorem XA.below (h : XA W w bA bP bQ f t f1 t1 f2 t2 gs l1 gt l2) (hb : Below w.heap.size w w1) : XA W w1 bA bP bQ f t f1 t1 f2 t2 gs l1 gt l2 := h.keep (Kp.below hb) (h.s.below hb)
theorem XA.out1 (h : XA W w bA bP bQ f t f1 t1 f2 t2 gs l1 gt l2) (x y : Nat) (hx : x < 18446744073709551616) (hy : y < 18446744073709551616) {n : Nat} {left : List Item} (hn : (arcL l1 x y).length = n) (hl : leftL l1 x y = left) :
    Calls Try.prog 12 #[.pointer (some ⟨gs, 0, none⟩), .agg #[.int .u64 (x : Nat), .int .u64 (y : Nat)]] w fun e w' => ∃ A c, e = .returned (.slice A n c) ∧ XA W w' bA bP bQ f t f1 t1 f2 t2 gs left gt l2 := by
  refine (h.s.out1 x y hx hy rfl hl).mono ?_
  rintro e w' ⟨A, c, rfl, _, z2, z3⟩
  exact ⟨A, c, by rw [hn], h.keep z3 (z2.less (fun q hq => List.mem_append_left _ hq))⟩
theorem XA.out2 (h : XA W w bA bP bQ f t f1 t1 f2 t2 gs l1 gt l2) (x y : Nat) (hx : x < 18446744073709551616) (hy : y < 18446744073709551616) {n : Nat} {left : List Item} (hn : (arcL l2 x y).length = n) (hl : leftL l2 x y = left) :
    Calls Try.prog 12 #[.pointer (some ⟨gt, 0, none⟩), .agg #[.int .u64 (x : Nat), .int .u64 (y : Nat)]] w fun e w' => ∃ A c, e = .returned (.slice A n c) ∧ XA W w' bA bP bQ f t f1 t1 f2 t2 gs l1 gt left := by
  refine (h.s.swap.out1 x y hx hy rfl hl).mono ?_
  rintro e w' ⟨A, c, rfl, _, z2, z3⟩
  exact ⟨A, c, by rw [hn], h.keep z3 (z2.swap.less (fun q hq => List.mem_append_left _ hq))⟩
/-- the two arcs change places -/
theorem XA.turn (h : XA W w bA bP bQ f t f1 t1 f2 t2 gs l1 gt l2) (hA : bA ≠ bP ∧ bA ≠ bQ ∧ bP ≠ bQ) (hW : W.heap.size ≤ bP ∧ W.heap.size ≤ bQ) :
    XA W ((((w.setCell ⟨bP, 0, none⟩ (.int .u64 (f2 : Nat))).setCell ⟨bP, 1, none⟩ (.int .u64 (t2 : Nat))).setCell ⟨bQ, 0, none⟩ (.int .u64 (f1 : Nat))).setCell ⟨bQ, 1, none⟩ (.int .u64 (t1 : Nat))) bA bP bQ f t f2 t2 f1 t1 gs l1 gt l2 := by
  obtain ⟨a1, a2, a3⟩ := hA
  refine ⟨h.s.write (G := [bP, bQ]) (((((Touch.refl _ _).set (.inl (by simp)) _).set (.inl (by simp)) _).set (.inl (by simp)) _).set (.inl (by simp)) _) (fun q hq => ?_), ?_, ?_, ?_⟩
  · simp at hq ⊢
    omega
  · exact (((h.va.other a1 _ _).other a1 _ _).other a2 _ _).other a2 _ _
  · exact ((h.vp.set _ _).other a3 _ _).other a3 _ _
  · exact ((h.vq.other a3.symm _ _).other a3.symm _ _).set _ _
end
/-- a point inside parts an arc -/
theorem inB_parts {f t x : Nat} (hf : f < 18446744073709551616) (ht : t < 18446744073709551616) (hx : x < 18446744073709551616) (h : mayB f t x = true) (y : Nat) (hy : y < 18446744073709551616) : inB f t y = (inB f x y || inB x t y) := by
  unfold mayB at h
  rw [Bool.and_eq_true] at h
  have hn : x ≠ f := by simpa using h.1
  have hin := h.2
  rw [inB_to hn, inB_from hf ht hx hy hn hin]
  rw [in_iff] at hin
  apply Bool.eq_iff_iff.2
  rw [Bool.or_eq_true, Bool.and_eq_true, decide_eq_true_iff, decide_eq_true_iff]
  constructor
  · intro z
    rcases Nat.lt_or_ge (sub64 y f) (sub64 x f) with c | c
    · exact .inl c
    · exact .inr ⟨c, z⟩
  · rintro (z | ⟨_, z⟩)
    · rw [in_iff]
      rcases hin with c | c
      · exact .inl c
      · exact .inr (Nat.lt_trans z c)
    · exact z
/-- what two parts leave -/
theorem left_parts (l : List Item) {f t f1 t1 f2 t2 : Nat} (h : ∀ y, y < 18446744073709551616 → inB f t y = (inB f1 t1 y || inB f2 t2 y)) : leftL (leftL l f1 t1) f2 t2 = leftL l f t ∧ (arcL l f1 t1).length + (arcL (leftL l f1 t1) f2 t2).length = (arcL l f t).length := by
  have e : leftL (leftL l f1 t1) f2 t2 = leftL l f t := by
    unfold leftL
    rw [List.filter_filter]
    refine List.filter_congr (fun x _ => ?_)
    rw [h _ (adr_lt x)]
    cases inB f1 t1 (adr x) <;> cases inB f2 t2 (adr x) <;> rfl
  have c1 := arcL_count l f1 t1
  have c2 := arcL_count (leftL l f1 t1) f2 t2
  have c3 := arcL_count l f t
  rw [e] at c2
  exact ⟨e, by omega⟩
theorem arc_gone (l : List Item) (f t : Nat) : (arcL (leftL l f t) f t).length = 0 ∧ leftL (leftL l f t) f t = leftL l f t := by
  have e : leftL (leftL l f t) f t = leftL l f t := by
    unfold leftL
    rw [List.filter_filter]
    refine List.filter_congr (fun x _ => ?_)
    cases inB f t (adr x) <;> rfl
  have c := arcL_count (leftL l f t) f t
  rw [e] at c
  exact ⟨by omega, e⟩
theorem XA.cells {W w : World} {bA bP bQ f t f1 t1 f2 t2 gs gt : Nat} {l1 l2 : List Item} (h : XA W w bA bP bQ f t f1 t1 f2 t2 gs l1 gt l2) :
    w.cell? ⟨bP, 0, none⟩ = some (.int .u64 (f1 : Nat)) ∧ w.cell? ⟨bP, 1, none⟩ = some (.int .u64 (t1 : Nat)) ∧ w.cell? ⟨bQ, 0, none⟩ = some (.int .u64 (f2 : Nat)) ∧ w.cell? ⟨bQ, 1, none⟩ = some (.int .u64 (t2 : Nat)) := ⟨h.vp.v0, h.vp.v1, h.vq.v0, h.vq.v1⟩
set_option maxRecDepth 100000 in
set_option maxHeartbeats 8000000 in
theorem cutAllNo (A : Option Addr) (c : Nat) (zs : List Item) (f t x : Nat) (b : Bool) (W : World) (hA : ItemsAt W A zs) (hz : zs.length ≤ 60) (hf : f < 18446744073709551616) (ht : t < 18446744073709551616) (hx : x < 18446744073709551616) (hno : mayB f t x = false) :
    Calls Try.prog 5 #[.slice A zs.length c, .agg #[.int .u64 (f : Nat), .int .u64 (t : Nat)], .int .u64 (x : Nat), .bool b] W fun e w' => e = .returned (.bool true) ∧ Below W.heap.size W w' := by
  have CA : Hid (∀ w, Calls Try.prog 9 #[] w fun e w' => e = .returned (.bool true) ∧ Below w.heap.size w w') := fun w => cutAlive_any w w (Below.refl _ _)
  have HIT : Hid (∀ V, Below W.heap.size W V → ItemsAt V A zs) := fun V hb => hA.below hb
  obtain ⟨l, hl⟩ : ∃ l, fillL zs = l := ⟨_, rfl⟩
  have CF1 : Hid (∀ w, ItemsAt w A zs → Calls Try.prog 10 #[.slice A zs.length c] w fun e w' => ∃ gs gr, e = .returned (.tuple #[.pointer (some ⟨gs, 0, none⟩), .pointer (some ⟨gr, 0, none⟩)]) ∧ OSR SH w w' [] gs l gr l) := fun w hw => (filled_any shelfLaws A c zs w w (Below.refl _ _) hw (by omega)).mono (by
    rintro e w' ⟨gs, gr, rfl, z⟩
    rw [hl] at z
    exact ⟨gs, gr, rfl, z⟩)
  have CF2 : Hid (∀ V w gs gr, OSR SH V w [] gs l gr l → ItemsAt w A zs → Calls Try.prog 10 #[.slice A zs.length c] w fun e w' => ∃ gt gq, e = .returned (.tuple #[.pointer (some ⟨gt, 0, none⟩), .pointer (some ⟨gq, 0, none⟩)]) ∧ S2 V w' [] gs 200 l gt 200 l) := fun V w gs gr h hw => (filled_any shelfLaws A c zs w w (Below.refl _ _) hw (by omega)).mono (by
    rintro e w' ⟨gt, gq, rfl, z⟩
    rw [hl] at z
    obtain ⟨b, F2, _, z1, _, z3, _⟩ := z
    obtain ⟨P, Fr, y, _⟩ := S2.of h z1 (fun q hq => (z3 q hq).1) b
    exact ⟨gt, gq, rfl, y.less (by simp)⟩)
  have HBX : Hid (Below W.heap.size W (W.alloc (.cells #[.int .u64 (f : Nat), .int .u64 (t : Nat)] 25))) := (Below.refl _ _).alloc (Nat.le_refl _) _
  have HVC : Hid (∀ w, Below (W.alloc (.cells #[.int .u64 (f : Nat), .int .u64 (t : Nat)] 25)).heap.size (W.alloc (.cells #[.int .u64 (f : Nat), .int .u64 (t : Nat)] 25)) w → w.cell? ⟨W.heap.size, 0, none⟩ = some (.int .u64 (f : Nat)) ∧ w.cell? ⟨W.heap.size, 1, none⟩ = some (.int .u64 (t : Nat))) := fun w hw =>
    ⟨(hw.cell (p := ⟨W.heap.size, 0, none⟩) (by simp)).trans (arc_new0 _ _ _ _), (hw.cell (p := ⟨W.heap.size, 1, none⟩) (by simp)).trans (arc_new1 _ _ _ _)⟩
  have CSP : Hid (∀ w, Calls Try.prog 21 #[.agg #[.int .u64 (f : Nat), .int .u64 (t : Nat)], .int .u64 (x : Nat)] w fun e w' => e = .returned (.tuple #[.agg #[.int .u64 0, .int .u64 0], .agg #[.int .u64 0, .int .u64 0], .bool false]) ∧ Below w.heap.size w w') := fun w => by
    have z := arcSplit_any f t x w hf ht hx
    rwa [hno] at z
  obtain ⟨nz, hnz⟩ : ∃ y, zs.length = y := ⟨_, rfl⟩
  rw [hnz] at CF1 CF2 hz ⊢
  have d0 : decide ((60 : Int) < (nz : Int)) = false := by simp; omega
  clear hA hf ht hx hl hnz hno
  go_enter Try.func5, Try.ntmps5
  go_upto_region 4 with (first
    | (go_at_call 9; (with_reducible refine (CA.out _).mono ?_); rintro e w1 ⟨rfl, h1⟩; have B1 : Hid (Below W.heap.size W w1) := acc HBX.out h1; obtain ⟨y0, y1⟩ := HVC.out _ h1; have HZ1 := Lib.hid h1.size; have HVA : Hid (Var2 w1 W.heap.size (.int .u64 (f : Nat)) (.int .u64 (t : Nat))) := (Var2.new W _ _ _).below h1; clear h1)
    | (go_at_call 21; (with_reducible refine (CSP.out _).mono ?_); rintro e w2 ⟨rfl, h2⟩; have B2 : Hid (Below W.heap.size W w2) := acc B1.out h2; have HZ2 := Lib.hid h2.size; have HV2 : Hid (Below w1.heap.size w1 w2) := h2; clear h2 y0 y1))
  obtain ⟨V, hV⟩ : ∃ V, (w2.alloc (.cells #[.int .u64 0, .int .u64 0] 25)).alloc (.cells #[.int .u64 0, .int .u64 0] 25) = V := ⟨_, rfl⟩
  have HVB : Hid (Below W.heap.size W V) := by
    rw [← hV]; exact (B2.out.alloc B2.out.size _).alloc (by have := B2.out.size; simp; omega) _
  rw [hV]
  clear hV
  go_wp2_with (first
    | (go_at_call 10; (with_reducible refine (CF1.out _ (HIT.out _ HVB.out)).mono ?_); rintro e w3 ⟨gs, gr, rfl, h3⟩; have B3 : Hid (Below W.heap.size W w3) := acc HVB.out h3.1; have H3 := Lib.hid h3; clear h3)
    | (go_at_call 10; (with_reducible refine (CF2.out _ _ _ _ H3.out (HIT.out _ B3.out)).mono ?_); rintro e w4 ⟨gt, gq, rfl, h4⟩; have B4 : Hid (Below W.heap.size W w4) := acc HVB.out h4.1; clear h4))
  go_ret
  exact ⟨rfl, B4.out⟩
set_option maxRecDepth 100000 in
set_option maxHeartbeats 8000000 in
theorem cutAllPlain (A : Option Addr) (c : Nat) (zs : List Item) (f t x : Nat) (W : World) (hA : ItemsAt W A zs) (hz : zs.length ≤ 60) (hf : f < 18446744073709551616) (ht : t < 18446744073709551616) (hx : x < 18446744073709551616) (hyes : mayB f t x = true) :
    Calls Try.prog 5 #[.slice A zs.length c, .agg #[.int .u64 (f : Nat), .int .u64 (t : Nat)], .int .u64 (x : Nat), .bool false] W fun e w' => e = .returned (.bool true) ∧ Below W.heap.size W w' := by
  have CA : Hid (∀ w, Calls Try.prog 9 #[] w fun e w' => e = .returned (.bool true) ∧ Below w.heap.size w w') := fun w => cutAlive_any w w (Below.refl _ _)
  have HIT : Hid (∀ V, Below W.heap.size W V → ItemsAt V A zs) := fun V hb => hA.below hb
  obtain ⟨l, hl⟩ : ∃ l, fillL zs = l := ⟨_, rfl⟩
  have CF1 : Hid (∀ w, ItemsAt w A zs → Calls Try.prog 10 #[.slice A zs.length c] w fun e w' => ∃ gs gr, e = .returned (.tuple #[.pointer (some ⟨gs, 0, none⟩), .pointer (some ⟨gr, 0, none⟩)]) ∧ OSR SH w w' [] gs l gr l) := fun w hw => (filled_any shelfLaws A c zs w w (Below.refl _ _) hw (by omega)).mono (by
    rintro e w' ⟨gs, gr, rfl, z⟩
    rw [hl] at z
    exact ⟨gs, gr, rfl, z⟩)
  have CF2 : Hid (∀ V w gs gr, OSR SH V w [] gs l gr l → ItemsAt w A zs → Calls Try.prog 10 #[.slice A zs.length c] w fun e w' => ∃ gt gq, e = .returned (.tuple #[.pointer (some ⟨gt, 0, none⟩), .pointer (some ⟨gq, 0, none⟩)]) ∧ S2 V w' [] gs 200 l gt 200 l) := fun V w gs gr h hw => (filled_any shelfLaws A c zs w w (Below.refl _ _) hw (by omega)).mono (by
    rintro e w' ⟨gt, gq, rfl, z⟩
    rw [hl] at z
    obtain ⟨b, F2, _, z1, _, z3, _⟩ := z
    obtain ⟨P, Fr, y, _⟩ := S2.of h z1 (fun q hq => (z3 q hq).1) b
    exact ⟨gt, gq, rfl, y.less (by simp)⟩)
  have HBX : Hid (Below W.heap.size W (W.alloc (.cells #[.int .u64 (f : Nat), .int .u64 (t : Nat)] 25))) := (Below.refl _ _).alloc (Nat.le_refl _) _
  have HVC : Hid (∀ w, Below (W.alloc (.cells #[.int .u64 (f : Nat), .int .u64 (t : Nat)] 25)).heap.size (W.alloc (.cells #[.int .u64 (f : Nat), .int .u64 (t : Nat)] 25)) w → w.cell? ⟨W.heap.size, 0, none⟩ = some (.int .u64 (f : Nat)) ∧ w.cell? ⟨W.heap.size, 1, none⟩ = some (.int .u64 (t : Nat))) := fun w hw =>
    ⟨(hw.cell (p := ⟨W.heap.size, 0, none⟩) (by simp)).trans (arc_new0 _ _ _ _), (hw.cell (p := ⟨W.heap.size, 1, none⟩) (by simp)).trans (arc_new1 _ _ _ _)⟩
  have CSP : Hid (∀ w, Calls Try.prog 21 #[.agg #[.int .u64 (f : Nat), .int .u64 (t : Nat)], .int .u64 (x : Nat)] w fun e w' => e = .returned (.tuple #[.agg #[.int .u64 (f : Nat), .int .u64 (x : Nat)], .agg #[.int .u64 (x : Nat), .int .u64 (t : Nat)], .bool true]) ∧ Below w.heap.size w w') := fun w => by
    have z := arcSplit_any f t x w hf ht hx
    rwa [hyes] at z
  obtain ⟨e1, e2⟩ := left_parts l (f1 := f) (t1 := x) (f2 := x) (t2 := t) (f := f) (t := t) (fun y hy => by rw [inB_parts hf ht hx hyes y hy])
  obtain ⟨e3, e4⟩ := arc_gone l f t
  obtain ⟨k1, hk1⟩ : ∃ k, leftL l f x = k := ⟨_, rfl⟩
  obtain ⟨k, hk⟩ : ∃ k, leftL l f t = k := ⟨_, rfl⟩
  obtain ⟨n1, hn1⟩ : ∃ n, (arcL l f x).length = n := ⟨_, rfl⟩
  obtain ⟨na, hna⟩ : ∃ n, (arcL l f t).length = n := ⟨_, rfl⟩
  rw [hk1] at e1 e2
  rw [hk] at e1 e3 e4
  rw [hn1, hna] at e2
  obtain ⟨n2, hn2⟩ : ∃ n, (arcL k1 x t).length = n := ⟨_, rfl⟩
  rw [hn2] at e2
  have hna1 : na ≤ 120 := by
    have h1 := arcL_length_le l f t
    have h2 : l.length ≤ 60 := by rw [← hl]; exact fillL_length zs
    omega
  have CO1 : Hid (∀ w {bA bP bQ gs gt}, XA W w bA bP bQ f t f x x t gs l gt l → Calls Try.prog 12 #[.pointer (some ⟨gs, 0, none⟩), .agg #[.int .u64 (f : Nat), .int .u64 (x : Nat)]] w fun e w' => ∃ A c, e = .returned (.slice A n1 c) ∧ XA W w' bA bP bQ f t f x x t gs k1 gt l) := fun w _ _ _ _ _ h => h.out1 f x (by omega) (by omega) hn1 hk1
  have CO2 : Hid (∀ w {bA bP bQ gs gt}, XA W w bA bP bQ f t f x x t gs k1 gt l → Calls Try.prog 12 #[.pointer (some ⟨gs, 0, none⟩), .agg #[.int .u64 (x : Nat), .int .u64 (t : Nat)]] w fun e w' => ∃ A c, e = .returned (.slice A n2 c) ∧ XA W w' bA bP bQ f t f x x t gs k gt l) := fun w _ _ _ _ _ h => h.out1 x t (by omega) (by omega) hn2 e1
  have CO3 : Hid (∀ w {bA bP bQ gs gt}, XA W w bA bP bQ f t f x x t gs k gt l → Calls Try.prog 12 #[.pointer (some ⟨gt, 0, none⟩), .agg #[.int .u64 (f : Nat), .int .u64 (t : Nat)]] w fun e w' => ∃ A c, e = .returned (.slice A na c) ∧ XA W w' bA bP bQ f t f x x t gs k gt k) := fun w _ _ _ _ _ h => h.out2 f t (by omega) (by omega) hna hk
  have CO4 : Hid (∀ w {bA bP bQ gs gt}, XA W w bA bP bQ f t f x x t gs k gt k → Calls Try.prog 12 #[.pointer (some ⟨gt, 0, none⟩), .agg #[.int .u64 (f : Nat), .int .u64 (t : Nat)]] w fun e w' => ∃ A c, e = .returned (.slice A 0 c) ∧ XA W w' bA bP bQ f t f x x t gs k gt k) := fun w _ _ _ _ _ h => h.out2 f t (by omega) (by omega) e3 e4
  obtain ⟨nk, hnk⟩ : ∃ n, k.length = n := ⟨_, rfl⟩
  have CI1 : Hid (∀ w {bA bP bQ gs gt}, XA W w bA bP bQ f t f x x t gs k gt k → Calls Try.prog 22 #[.pointer (some ⟨gs, 0, none⟩)] w fun e w' => ∃ A c, e = .returned (.slice A nk c) ∧ w'.ownsRow 0 39 2 (.slice A nk c) nk (itemCells k) ∧ XA W w' bA bP bQ f t f x x t gs k gt k ∧ Below w.heap.size w w') := fun w _ _ _ _ _ h => (h.s.items1).mono (by
    rintro e w' ⟨A, c, rfl, z1, _, z3⟩
    rw [hnk] at z1 ⊢
    exact ⟨A, c, rfl, own_mono z1 (Nat.zero_le _), h.below z3, z3⟩)
  have CI2 : Hid (∀ w {bA bP bQ gs gt}, XA W w bA bP bQ f t f x x t gs k gt k → Calls Try.prog 22 #[.pointer (some ⟨gt, 0, none⟩)] w fun e w' => ∃ A c, e = .returned (.slice A nk c) ∧ w'.ownsRow 0 39 2 (.slice A nk c) nk (itemCells k) ∧ XA W w' bA bP bQ f t f x x t gs k gt k ∧ Below w.heap.size w w') := fun w _ _ _ _ _ h => (h.s.swap.items1).mono (by
    rintro e w' ⟨A, c, rfl, z1, _, z3⟩
    rw [hnk] at z1 ⊢
    exact ⟨A, c, rfl, own_mono z1 (Nat.zero_le _), h.below z3, z3⟩)
  have CS : Hid (∀ w A B c d, w.ownsRow 0 39 2 (.slice A nk c) nk (itemCells k) → w.ownsRow 0 39 2 (.slice B nk d) nk (itemCells k) → Calls Try.prog 19 #[.slice A nk c, .slice B nk d] w fun e w' => e = .returned (.bool true) ∧ ∃ j, w' = w.drewN j) := fun w A B c d h1 h2 => same_any A B c d nk _ _ k w hnk h1 h2
  obtain ⟨nz, hnz⟩ : ∃ y, zs.length = y := ⟨_, rfl⟩
  rw [hnz] at CF1 CF2 hz ⊢
  have d0 : decide ((60 : Int) < (nz : Int)) = false := by simp; omega
  have d1 : IntKind.i64.wrap ((n1 : Int) + (n2 : Int)) = (na : Int) := by rw [IntKind.wrap_i64]; omega
  clear hA hf ht hx hl hnz hyes e1 e2 e3 e4 hk1 hk hn1 hn2 hna hnk
  go_enter Try.func5, Try.ntmps5
  go_upto_region 4 with (first
    | (go_at_call 9; (with_reducible refine (CA.out _).mono ?_); rintro e w1 ⟨rfl, h1⟩; have B1 : Hid (Below W.heap.size W w1) := acc HBX.out h1; obtain ⟨y0, y1⟩ := HVC.out _ h1; have HZ1 := Lib.hid h1.size; have HVA : Hid (Var2 w1 W.heap.size (.int .u64 (f : Nat)) (.int .u64 (t : Nat))) := (Var2.new W _ _ _).below h1; clear h1)
    | (go_at_call 21; (with_reducible refine (CSP.out _).mono ?_); rintro e w2 ⟨rfl, h2⟩; have B2 : Hid (Below W.heap.size W w2) := acc B1.out h2; have HZ2 := Lib.hid h2.size; have HV2 : Hid (Below w1.heap.size w1 w2) := h2; clear h2 y0 y1))
  obtain ⟨V, hV⟩ : ∃ V, (w2.alloc (.cells #[.int .u64 (f : Nat), .int .u64 (x : Nat)] 25)).alloc (.cells #[.int .u64 (x : Nat), .int .u64 (t : Nat)] 25) = V := ⟨_, rfl⟩
  have HVB : Hid (Below W.heap.size W V) := by
    rw [← hV]; exact (B2.out.alloc B2.out.size _).alloc (by have := B2.out.size; simp; omega) _
  have va : Var2 V W.heap.size (.int .u64 (f : Nat)) (.int .u64 (t : Nat)) := by
    rw [← hV]
    exact (((HVA.out).below HV2.out).old _).old _
  have vp : Var2 V w2.heap.size (.int .u64 (f : Nat)) (.int .u64 (x : Nat)) := by
    rw [← hV]; exact (Var2.new w2 _ _ _).old _
  have vq : Var2 V (w2.heap.size + 1) (.int .u64 (x : Nat)) (.int .u64 (t : Nat)) := by
    rw [← hV]
    have z := Var2.new (w2.alloc (.cells #[.int .u64 (f : Nat), .int .u64 (x : Nat)] 25)) (.int .u64 (x : Nat)) (.int .u64 (t : Nat)) 25
    rw [World.size_alloc] at z
    exact z
  have hzz : W.heap.size < w2.heap.size := by
    have := HZ1.out
    have := HZ2.out
    simp at *
    omega
  have HVA' := Lib.hid va
  have HVP := Lib.hid vp
  have HVQ := Lib.hid vq
  rw [hV]
  clear hV va vp vq
  go_upto_region 8 with (first
    | (go_at_call 10; (with_reducible refine (CF1.out _ (HIT.out _ HVB.out)).mono ?_); rintro e w3 ⟨gs, gr, rfl, h3⟩; have B3 : Hid (Below W.heap.size W w3) := acc HVB.out h3.1; have H3 := Lib.hid h3; clear h3)
    | (go_at_call 10; (with_reducible refine (CF2.out _ _ _ _ H3.out (HIT.out _ B3.out)).mono ?_); rintro e w4 ⟨gt, gq, rfl, h4⟩; have HXF : Hid (XA W w4 W.heap.size w2.heap.size (w2.heap.size + 1) f t f x x t gs l gt l) := ⟨S2.rebase HVB.out (fun q hq => by simp at hq; rcases hq with rfl | rfl | rfl; exact HVA'.out.lt; exact HVP.out.lt; exact HVQ.out.lt) h4, HVA'.out.below h4.1, HVP.out.below h4.1, HVQ.out.below h4.1⟩; clear h4))
  go_upto_region 10 with fail
  have HX0 : Hid (XA W w4.drew W.heap.size w2.heap.size (w2.heap.size + 1) f t f x x t gs l gt l) := HXF.out.below (Below.refl _ _).drew
  refine wp_region_held_drew (S := (fun w' => w'.cell? ⟨w2.heap.size, 0, none⟩ = some (.int .u64 (f : Nat)) ∧ w'.cell? ⟨w2.heap.size, 1, none⟩ = some (.int .u64 (x : Nat)) ∧ w'.cell? ⟨w2.heap.size + 1, 0, none⟩ = some (.int .u64 (x : Nat)) ∧ w'.cell? ⟨w2.heap.size + 1, 1, none⟩ = some (.int .u64 (t : Nat)))) (by kernel_rfl) ?_ (fun hHeld => ?_)
  · (try dsimp only); exact XA.cells HX0.out
  refine wpAnyH_take (i := 0) (oi := ⟨_, _, _, _, _, _⟩) (v := ?_) rfl (by kernel_rfl) (by kernel_rfl) (by kernel_rfl) (fun _ _ _ h => h) (Or.inl ⟨by rfl, ?_⟩) (by assumption) ?_
  rotate_left
  · (intro wS hSw; (try dsimp only at hSw); go_simp <;> with_reducible rfl)
  try simp only [Act.put, List.setIfInBounds_toArray, List.set_cons_zero, List.set_cons_succ]
  refine wpAnyH_take (i := 1) (oi := ⟨_, _, _, _, _, _⟩) (v := ?_) rfl (by kernel_rfl) (by kernel_rfl) (by kernel_rfl) (fun _ _ _ h => h) (Or.inl ⟨by rfl, ?_⟩) (by assumption) ?_
  rotate_left
  · (intro wS hSw; (try dsimp only at hSw); go_simp <;> with_reducible rfl)
  try simp only [Act.put, List.setIfInBounds_toArray, List.set_cons_zero, List.set_cons_succ]
  refine wpAnyH_take (i := 4) (oi := ⟨_, _, _, _, _, _⟩) (v := ?_) rfl (by kernel_rfl) (by kernel_rfl) (by kernel_rfl) (fun _ _ _ h => h) (Or.inl ⟨by rfl, ?_⟩) (by assumption) ?_
  rotate_left
  · (intro wS hSw; (try dsimp only at hSw); go_simp <;> with_reducible rfl)
  try simp only [Act.put, List.setIfInBounds_toArray, List.set_cons_zero, List.set_cons_succ]
  refine wpAnyH_take (i := 5) (oi := ⟨_, _, _, _, _, _⟩) (v := ?_) rfl (by kernel_rfl) (by kernel_rfl) (by kernel_rfl) (fun _ _ _ h => h) (Or.inl ⟨by rfl, ?_⟩) (by assumption) ?_
  rotate_left
  · (intro wS hSw; (try dsimp only at hSw); go_simp <;> with_reducible rfl)
  try simp only [Act.put, List.setIfInBounds_toArray, List.set_cons_zero, List.set_cons_succ]
  refine wpAnyH_ready (rs := [2]) (by kernel_rfl) (by simp) ?_
  refine AllReadyH.cons (o := ⟨_, _, _, _, _, _⟩) rfl (fun K hK => ?_) AllReadyH.nil
  go_simp
  (first | (go_at_call 12; (with_reducible refine (CO1.out _ HX0.out).mono ?_); rintro e w5 ⟨A5, c5, rfl, x5⟩; have s5 := XA.cells x5; have HX5 := Lib.hid x5; clear x5) | (go_at_call 12; (with_reducible refine (CO2.out _ HX5.out).mono ?_); rintro e w6 ⟨A6, c6, rfl, x6⟩; have s6 := XA.cells x6; obtain ⟨z1, z2, -, -⟩ := x6.va; have HX6 := Lib.hid x6; clear x6))
  go_wp2_with fail
  refine hK.out _ _ (by (try dsimp only); (first | assumption)) (fun hHeld => ?_)
  clear hK K
  try simp only [Act.put, List.setIfInBounds_toArray, List.set_cons_zero, List.set_cons_succ]
  refine wpAnyH_take (i := 3) (oi := ⟨_, _, _, _, _, _⟩) (v := ?_) rfl (by kernel_rfl) (by kernel_rfl) (by kernel_rfl) (fun _ _ _ h => h) (Or.inl ⟨by rfl, ?_⟩) (by assumption) ?_
  rotate_left
  · (intro wS hSw; (try dsimp only at hSw); go_simp <;> with_reducible rfl)
  try simp only [Act.put, List.setIfInBounds_toArray, List.set_cons_zero, List.set_cons_succ]
  refine wpAnyH_ready (rs := [6]) (by kernel_rfl) (by simp) ?_
  refine AllReadyH.cons (o := ⟨_, _, _, _, _, _⟩) rfl (fun K hK => ?_) AllReadyH.nil
  go_simp
  (first | (go_at_call 12; (with_reducible refine (CO1.out _ HX0.out).mono ?_); rintro e w5 ⟨A5, c5, rfl, x5⟩; have s5 := XA.cells x5; have HX5 := Lib.hid x5; clear x5) | (go_at_call 12; (with_reducible refine (CO2.out _ HX5.out).mono ?_); rintro e w6 ⟨A6, c6, rfl, x6⟩; have s6 := XA.cells x6; obtain ⟨z1, z2, -, -⟩ := x6.va; have HX6 := Lib.hid x6; clear x6))
  go_wp2_with fail
  refine hK.out _ _ (by (try dsimp only); (first | assumption)) (fun hHeld => ?_)
  clear hK K
  try simp only [Act.put, List.setIfInBounds_toArray, List.set_cons_zero, List.set_cons_succ]
  refine wpAnyH_take (i := 7) (oi := ⟨_, _, _, _, _, _⟩) (v := ?_) rfl (by kernel_rfl) (by kernel_rfl) (by kernel_rfl) (fun _ _ _ h => h) (Or.inl ⟨by rfl, ?_⟩) (by assumption) ?_
  rotate_left
  · (intro wS hSw; (try dsimp only at hSw); go_simp <;> with_reducible rfl)
  try simp only [Act.put, List.setIfInBounds_toArray, List.set_cons_zero, List.set_cons_succ]
  refine wpAnyH_take (i := 8) (oi := ⟨_, _, _, _, _, _⟩) (v := ?_) rfl (by kernel_rfl) (by kernel_rfl) (by kernel_rfl) (fun _ _ _ h => h) (Or.inl ⟨by rfl, ?_⟩) (by assumption) ?_
  rotate_left
  · (intro wS hSw; (try dsimp only at hSw); go_simp <;> with_reducible rfl)
  try simp only [Act.put, List.setIfInBounds_toArray, List.set_cons_zero, List.set_cons_succ]
  refine wpAnyH_take (i := 9) (oi := ⟨_, _, _, _, _, _⟩) (v := ?_) rfl (by kernel_rfl) (by kernel_rfl) (by kernel_rfl) (fun _ _ _ h => h) (Or.inl ⟨by rfl, ?_⟩) (by assumption) ?_
  rotate_left
  · (intro wS hSw; (try dsimp only at hSw); go_simp <;> with_reducible rfl)
  try simp only [Act.put, List.setIfInBounds_toArray, List.set_cons_zero, List.set_cons_succ]
  refine wpAnyH_done (by kernel_rfl) ?_ _
  clear s5 s6
  go_wp2_with (first
    | (go_at_call 12; (with_reducible refine (CO3.out _ HX6.out).mono ?_); rintro e w7 ⟨A7, c7, rfl, x7⟩; have HX7 := Lib.hid x7; clear x7)
    | (go_at_call 22; (with_reducible refine (CI1.out _ HX7.out).mono ?_); rintro e w8 ⟨A8, c8, rfl, r8, x8, b8⟩; have HX8 := Lib.hid x8; have HR8 := Lib.hid r8; clear x8 r8 b8)
    | (go_at_call 22; (with_reducible refine (CI2.out _ HX8.out).mono ?_); rintro e w9 ⟨A9, c9, rfl, r9, x9, b9⟩; have HR8' := Lib.hid (own_keep HR8.out b9); have HX9 := Lib.hid x9; have HR9 := Lib.hid r9; clear x9 r9 b9)
    | (go_at_call 19; (with_reducible refine (CS.out _ _ _ _ _ HR8'.out HR9.out).mono ?_); rintro e w10 ⟨rfl, k10, rfl⟩; have x10 := HX9.out.below (((Touch.refl [] w9).drewN k10).below (Nat.le_refl _) (by simp)); obtain ⟨z1, z2, -, -⟩ := x10.va; have HX10 := Lib.hid x10; clear x10)
    | (go_at_call 12; (with_reducible refine (CO4.out _ HX10.out).mono ?_); rintro e w11 ⟨A11, c11, rfl, x11⟩; have HX11 := Lib.hid x11; clear x11))
  go_ret
  exact ⟨rfl, HX11.out.s.1⟩
set_option maxRecDepth 100000 in
set_option maxHeartbeats 8000000 in
theorem cutAllTurned (A : Option Addr) (c : Nat) (zs : List Item) (f t x : Nat) (W : World) (hA : ItemsAt W A zs) (hz : zs.length ≤ 60) (hf : f < 18446744073709551616) (ht : t < 18446744073709551616) (hx : x < 18446744073709551616) (hyes : mayB f t x = true) :
    Calls Try.prog 5 #[.slice A zs.length c, .agg #[.int .u64 (f : Nat), .int .u64 (t : Nat)], .int .u64 (x : Nat), .bool true] W fun e w' => e = .returned (.bool true) ∧ Below W.heap.size W w' := by
  have CA : Hid (∀ w, Calls Try.prog 9 #[] w fun e w' => e = .returned (.bool true) ∧ Below w.heap.size w w') := fun w => cutAlive_any w w (Below.refl _ _)
  have HIT : Hid (∀ V, Below W.heap.size W V → ItemsAt V A zs) := fun V hb => hA.below hb
  obtain ⟨l, hl⟩ : ∃ l, fillL zs = l := ⟨_, rfl⟩
  have CF1 : Hid (∀ w, ItemsAt w A zs → Calls Try.prog 10 #[.slice A zs.length c] w fun e w' => ∃ gs gr, e = .returned (.tuple #[.pointer (some ⟨gs, 0, none⟩), .pointer (some ⟨gr, 0, none⟩)]) ∧ OSR SH w w' [] gs l gr l) := fun w hw => (filled_any shelfLaws A c zs w w (Below.refl _ _) hw (by omega)).mono (by
    rintro e w' ⟨gs, gr, rfl, z⟩
    rw [hl] at z
    exact ⟨gs, gr, rfl, z⟩)
  have CF2 : Hid (∀ V w gs gr, OSR SH V w [] gs l gr l → ItemsAt w A zs → Calls Try.prog 10 #[.slice A zs.length c] w fun e w' => ∃ gt gq, e = .returned (.tuple #[.pointer (some ⟨gt, 0, none⟩), .pointer (some ⟨gq, 0, none⟩)]) ∧ S2 V w' [] gs 200 l gt 200 l) := fun V w gs gr h hw => (filled_any shelfLaws A c zs w w (Below.refl _ _) hw (by omega)).mono (by
    rintro e w' ⟨gt, gq, rfl, z⟩
    rw [hl] at z
    obtain ⟨b, F2, _, z1, _, z3, _⟩ := z
    obtain ⟨P, Fr, y, _⟩ := S2.of h z1 (fun q hq => (z3 q hq).1) b
    exact ⟨gt, gq, rfl, y.less (by simp)⟩)
  have HBX : Hid (Below W.heap.size W (W.alloc (.cells #[.int .u64 (f : Nat), .int .u64 (t : Nat)] 25))) := (Below.refl _ _).alloc (Nat.le_refl _) _
  have HVC : Hid (∀ w, Below (W.alloc (.cells #[.int .u64 (f : Nat), .int .u64 (t : Nat)] 25)).heap.size (W.alloc (.cells #[.int .u64 (f : Nat), .int .u64 (t : Nat)] 25)) w → w.cell? ⟨W.heap.size, 0, none⟩ = some (.int .u64 (f : Nat)) ∧ w.cell? ⟨W.heap.size, 1, none⟩ = some (.int .u64 (t : Nat))) := fun w hw =>
    ⟨(hw.cell (p := ⟨W.heap.size, 0, none⟩) (by simp)).trans (arc_new0 _ _ _ _), (hw.cell (p := ⟨W.heap.size, 1, none⟩) (by simp)).trans (arc_new1 _ _ _ _)⟩
  have CSP : Hid (∀ w, Calls Try.prog 21 #[.agg #[.int .u64 (f : Nat), .int .u64 (t : Nat)], .int .u64 (x : Nat)] w fun e w' => e = .returned (.tuple #[.agg #[.int .u64 (f : Nat), .int .u64 (x : Nat)], .agg #[.int .u64 (x : Nat), .int .u64 (t : Nat)], .bool true]) ∧ Below w.heap.size w w') := fun w => by
    have z := arcSplit_any f t x w hf ht hx
    rwa [hyes] at z
  obtain ⟨e1, e2⟩ := left_parts l (f1 := x) (t1 := t) (f2 := f) (t2 := x) (f := f) (t := t) (fun y hy => by rw [inB_parts hf ht hx hyes y hy]; exact Bool.or_comm _ _)
  obtain ⟨e3, e4⟩ := arc_gone l f t
  obtain ⟨k1, hk1⟩ : ∃ k, leftL l x t = k := ⟨_, rfl⟩
  obtain ⟨k, hk⟩ : ∃ k, leftL l f t = k := ⟨_, rfl⟩
  obtain ⟨n1, hn1⟩ : ∃ n, (arcL l x t).length = n := ⟨_, rfl⟩
  obtain ⟨na, hna⟩ : ∃ n, (arcL l f t).length = n := ⟨_, rfl⟩
  rw [hk1] at e1 e2
  rw [hk] at e1 e3 e4
  rw [hn1, hna] at e2
  obtain ⟨n2, hn2⟩ : ∃ n, (arcL k1 f x).length = n := ⟨_, rfl⟩
  rw [hn2] at e2
  have hna1 : na ≤ 120 := by
    have h1 := arcL_length_le l f t
    have h2 : l.length ≤ 60 := by rw [← hl]; exact fillL_length zs
    omega
  have CO1 : Hid (∀ w {bA bP bQ gs gt}, XA W w bA bP bQ f t x t f x gs l gt l → Calls Try.prog 12 #[.pointer (some ⟨gs, 0, none⟩), .agg #[.int .u64 (x : Nat), .int .u64 (t : Nat)]] w fun e w' => ∃ A c, e = .returned (.slice A n1 c) ∧ XA W w' bA bP bQ f t x t f x gs k1 gt l) := fun w _ _ _ _ _ h => h.out1 x t (by omega) (by omega) hn1 hk1
  have CO2 : Hid (∀ w {bA bP bQ gs gt}, XA W w bA bP bQ f t x t f x gs k1 gt l → Calls Try.prog 12 #[.pointer (some ⟨gs, 0, none⟩), .agg #[.int .u64 (f : Nat), .int .u64 (x : Nat)]] w fun e w' => ∃ A c, e = .returned (.slice A n2 c) ∧ XA W w' bA bP bQ f t x t f x gs k gt l) := fun w _ _ _ _ _ h => h.out1 f x (by omega) (by omega) hn2 e1
  have CO3 : Hid (∀ w {bA bP bQ gs gt}, XA W w bA bP bQ f t x t f x gs k gt l → Calls Try.prog 12 #[.pointer (some ⟨gt, 0, none⟩), .agg #[.int .u64 (f : Nat), .int .u64 (t : Nat)]] w fun e w' => ∃ A c, e = .returned (.slice A na c) ∧ XA W w' bA bP bQ f t x t f x gs k gt k) := fun w _ _ _ _ _ h => h.out2 f t (by omega) (by omega) hna hk
  have CO4 : Hid (∀ w {bA bP bQ gs gt}, XA W w bA bP bQ f t x t f x gs k gt k → Calls Try.prog 12 #[.pointer (some ⟨gt, 0, none⟩), .agg #[.int .u64 (f : Nat), .int .u64 (t : Nat)]] w fun e w' => ∃ A c, e = .returned (.slice A 0 c) ∧ XA W w' bA bP bQ f t x t f x gs k gt k) := fun w _ _ _ _ _ h => h.out2 f t (by omega) (by omega) e3 e4
  obtain ⟨nk, hnk⟩ : ∃ n, k.length = n := ⟨_, rfl⟩
  have CI1 : Hid (∀ w {bA bP bQ gs gt}, XA W w bA bP bQ f t x t f x gs k gt k → Calls Try.prog 22 #[.pointer (some ⟨gs, 0, none⟩)] w fun e w' => ∃ A c, e = .returned (.slice A nk c) ∧ w'.ownsRow 0 39 2 (.slice A nk c) nk (itemCells k) ∧ XA W w' bA bP bQ f t x t f x gs k gt k ∧ Below w.heap.size w w') := fun w _ _ _ _ _ h => (h.s.items1).mono (by
    rintro e w' ⟨A, c, rfl, z1, _, z3⟩
    rw [hnk] at z1 ⊢
    exact ⟨A, c, rfl, own_mono z1 (Nat.zero_le _), h.below z3, z3⟩)
  have CI2 : Hid (∀ w {bA bP bQ gs gt}, XA W w bA bP bQ f t x t f x gs k gt k → Calls Try.prog 22 #[.pointer (some ⟨gt, 0, none⟩)] w fun e w' => ∃ A c, e = .returned (.slice A nk c) ∧ w'.ownsRow 0 39 2 (.slice A nk c) nk (itemCells k) ∧ XA W w' bA bP bQ f t x t f x gs k gt k ∧ Below w.heap.size w w') := fun w _ _ _ _ _ h => (h.s.swap.items1).mono (by
    rintro e w' ⟨A, c, rfl, z1, _, z3⟩
    rw [hnk] at z1 ⊢
    exact ⟨A, c, rfl, own_mono z1 (Nat.zero_le _), h.below z3, z3⟩)
  have CS : Hid (∀ w A B c d, w.ownsRow 0 39 2 (.slice A nk c) nk (itemCells k) → w.ownsRow 0 39 2 (.slice B nk d) nk (itemCells k) → Calls Try.prog 19 #[.slice A nk c, .slice B nk d] w fun e w' => e = .returned (.bool true) ∧ ∃ j, w' = w.drewN j) := fun w A B c d h1 h2 => same_any A B c d nk _ _ k w hnk h1 h2
  obtain ⟨nz, hnz⟩ : ∃ y, zs.length = y := ⟨_, rfl⟩
  rw [hnz] at CF1 CF2 hz ⊢
  have d0 : decide ((60 : Int) < (nz : Int)) = false := by simp; omega
  have d1 : IntKind.i64.wrap ((n1 : Int) + (n2 : Int)) = (na : Int) := by rw [IntKind.wrap_i64]; omega
  clear hA hf ht hx hl hnz hyes e1 e2 e3 e4 hk1 hk hn1 hn2 hna hnk
  go_enter Try.func5, Try.ntmps5
  go_upto_region 4 with (first
    | (go_at_call 9; (with_reducible refine (CA.out _).mono ?_); rintro e w1 ⟨rfl, h1⟩; have B1 : Hid (Below W.heap.size W w1) := acc HBX.out h1; obtain ⟨y0, y1⟩ := HVC.out _ h1; have HZ1 := Lib.hid h1.size; have HVA : Hid (Var2 w1 W.heap.size (.int .u64 (f : Nat)) (.int .u64 (t : Nat))) := (Var2.new W _ _ _).below h1; clear h1)
    | (go_at_call 21; (with_reducible refine (CSP.out _).mono ?_); rintro e w2 ⟨rfl, h2⟩; have B2 : Hid (Below W.heap.size W w2) := acc B1.out h2; have HZ2 := Lib.hid h2.size; have HV2 : Hid (Below w1.heap.size w1 w2) := h2; clear h2 y0 y1))
  obtain ⟨V, hV⟩ : ∃ V, (w2.alloc (.cells #[.int .u64 (f : Nat), .int .u64 (x : Nat)] 25)).alloc (.cells #[.int .u64 (x : Nat), .int .u64 (t : Nat)] 25) = V := ⟨_, rfl⟩
  have HVB : Hid (Below W.heap.size W V) := by
    rw [← hV]; exact (B2.out.alloc B2.out.size _).alloc (by have := B2.out.size; simp; omega) _
  have va : Var2 V W.heap.size (.int .u64 (f : Nat)) (.int .u64 (t : Nat)) := by
    rw [← hV]
    exact (((HVA.out).below HV2.out).old _).old _
  have vp : Var2 V w2.heap.size (.int .u64 (f : Nat)) (.int .u64 (x : Nat)) := by
    rw [← hV]; exact (Var2.new w2 _ _ _).old _
  have vq : Var2 V (w2.heap.size + 1) (.int .u64 (x : Nat)) (.int .u64 (t : Nat)) := by
    rw [← hV]
    have z := Var2.new (w2.alloc (.cells #[.int .u64 (f : Nat), .int .u64 (x : Nat)] 25)) (.int .u64 (x : Nat)) (.int .u64 (t : Nat)) 25
    rw [World.size_alloc] at z
    exact z
  have hzz : W.heap.size < w2.heap.size := by
    have := HZ1.out
    have := HZ2.out
    simp at *
    omega
  have HVA' := Lib.hid va
  have HVP := Lib.hid vp
  have HVQ := Lib.hid vq
  rw [hV]
  clear hV va vp vq
  go_upto_region 8 with (first
    | (go_at_call 10; (with_reducible refine (CF1.out _ (HIT.out _ HVB.out)).mono ?_); rintro e w3 ⟨gs, gr, rfl, h3⟩; have B3 : Hid (Below W.heap.size W w3) := acc HVB.out h3.1; have H3 := Lib.hid h3; clear h3)
    | (go_at_call 10; (with_reducible refine (CF2.out _ _ _ _ H3.out (HIT.out _ B3.out)).mono ?_); rintro e w4 ⟨gt, gq, rfl, h4⟩; have HXF : Hid (XA W w4 W.heap.size w2.heap.size (w2.heap.size + 1) f t f x x t gs l gt l) := ⟨S2.rebase HVB.out (fun q hq => by simp at hq; rcases hq with rfl | rfl | rfl; exact HVA'.out.lt; exact HVP.out.lt; exact HVQ.out.lt) h4, HVA'.out.below h4.1, HVP.out.below h4.1, HVQ.out.below h4.1⟩; clear h4))
  obtain ⟨q0, q1, q2, q3⟩ := HXF.out.vp
  obtain ⟨q4, q5, q6, q7⟩ := HXF.out.vq
  go_upto_region 10 with fail
  have HX0 : Hid (XA W ((((w4.setCell ⟨w2.heap.size, 0, none⟩ (.int .u64 (x : Nat))).setCell ⟨w2.heap.size, 1, none⟩ (.int .u64 (t : Nat))).setCell ⟨w2.heap.size + 1, 0, none⟩ (.int .u64 (f : Nat))).setCell ⟨w2.heap.size + 1, 1, none⟩ (.int .u64 (x : Nat))).drew W.heap.size w2.heap.size (w2.heap.size + 1) f t x t f x gs l gt l) := (XA.turn HXF.out (by omega) (by omega)).below (Below.refl _ _).drew
  generalize (((w4.setCell ⟨w2.heap.size, 0, none⟩ (.int .u64 (x : Nat))).setCell ⟨w2.heap.size, 1, none⟩ (.int .u64 (t : Nat))).setCell ⟨w2.heap.size + 1, 0, none⟩ (.int .u64 (f : Nat))).setCell ⟨w2.heap.size + 1, 1, none⟩ (.int .u64 (x : Nat)) = w4' at *
  clear q0 q1 q2 q3 q4 q5 q6 q7
  refine wp_region_held_drew (S := (fun w' => w'.cell? ⟨w2.heap.size, 0, none⟩ = some (.int .u64 (x : Nat)) ∧ w'.cell? ⟨w2.heap.size, 1, none⟩ = some (.int .u64 (t : Nat)) ∧ w'.cell? ⟨w2.heap.size + 1, 0, none⟩ = some (.int .u64 (f : Nat)) ∧ w'.cell? ⟨w2.heap.size + 1, 1, none⟩ = some (.int .u64 (x : Nat)))) (by kernel_rfl) ?_ (fun hHeld => ?_)
  · (try dsimp only); exact XA.cells HX0.out
  refine wpAnyH_take (i := 0) (oi := ⟨_, _, _, _, _, _⟩) (v := ?_) rfl (by kernel_rfl) (by kernel_rfl) (by kernel_rfl) (fun _ _ _ h => h) (Or.inl ⟨by rfl, ?_⟩) (by assumption) ?_
  rotate_left
  · (intro wS hSw; (try dsimp only at hSw); go_simp <;> with_reducible rfl)
  try simp only [Act.put, List.setIfInBounds_toArray, List.set_cons_zero, List.set_cons_succ]
  refine wpAnyH_take (i := 1) (oi := ⟨_, _, _, _, _, _⟩) (v := ?_) rfl (by kernel_rfl) (by kernel_rfl) (by kernel_rfl) (fun _ _ _ h => h) (Or.inl ⟨by rfl, ?_⟩) (by assumption) ?_
  rotate_left
  · (intro wS hSw; (try dsimp only at hSw); go_simp <;> with_reducible rfl)
  try simp only [Act.put, List.setIfInBounds_toArray, List.set_cons_zero, List.set_cons_succ]
  refine wpAnyH_take (i := 4) (oi := ⟨_, _, _, _, _, _⟩) (v := ?_) rfl (by kernel_rfl) (by kernel_rfl) (by kernel_rfl) (fun _ _ _ h => h) (Or.inl ⟨by rfl, ?_⟩) (by assumption) ?_
  rotate_left
  · (intro wS hSw; (try dsimp only at hSw); go_simp <;> with_reducible rfl)
  try simp only [Act.put, List.setIfInBounds_toArray, List.set_cons_zero, List.set_cons_succ]
  refine wpAnyH_take (i := 5) (oi := ⟨_, _, _, _, _, _⟩) (v := ?_) rfl (by kernel_rfl) (by kernel_rfl) (by kernel_rfl) (fun _ _ _ h => h) (Or.inl ⟨by rfl, ?_⟩) (by assumption) ?_
  rotate_left
  · (intro wS hSw; (try dsimp only at hSw); go_simp <;> with_reducible rfl)
  try simp only [Act.put, List.setIfInBounds_toArray, List.set_cons_zero, List.set_cons_succ]
  refine wpAnyH_ready (rs := [2]) (by kernel_rfl) (by simp) ?_
  refine AllReadyH.cons (o := ⟨_, _, _, _, _, _⟩) rfl (fun K hK => ?_) AllReadyH.nil
  go_simp
  (first | (go_at_call 12; (with_reducible refine (CO1.out _ HX0.out).mono ?_); rintro e w5 ⟨A5, c5, rfl, x5⟩; have s5 := XA.cells x5; have HX5 := Lib.hid x5; clear x5) | (go_at_call 12; (with_reducible refine (CO2.out _ HX5.out).mono ?_); rintro e w6 ⟨A6, c6, rfl, x6⟩; have s6 := XA.cells x6; obtain ⟨z1, z2, -, -⟩ := x6.va; have HX6 := Lib.hid x6; clear x6))
  go_wp2_with fail
  refine hK.out _ _ (by (try dsimp only); (first | assumption)) (fun hHeld => ?_)
  clear hK K
  try simp only [Act.put, List.setIfInBounds_toArray, List.set_cons_zero, List.set_cons_succ]
  refine wpAnyH_take (i := 3) (oi := ⟨_, _, _, _, _, _⟩) (v := ?_) rfl (by kernel_rfl) (by kernel_rfl) (by kernel_rfl) (fun _ _ _ h => h) (Or.inl ⟨by rfl, ?_⟩) (by assumption) ?_
  rotate_left
  · (intro wS hSw; (try dsimp only at hSw); go_simp <;> with_reducible rfl)
  try simp only [Act.put, List.setIfInBounds_toArray, List.set_cons_zero, List.set_cons_succ]
  refine wpAnyH_ready (rs := [6]) (by kernel_rfl) (by simp) ?_
  refine AllReadyH.cons (o := ⟨_, _, _, _, _, _⟩) rfl (fun K hK => ?_) AllReadyH.nil
  go_simp
  (first | (go_at_call 12; (with_reducible refine (CO1.out _ HX0.out).mono ?_); rintro e w5 ⟨A5, c5, rfl, x5⟩; have s5 := XA.cells x5; have HX5 := Lib.hid x5; clear x5) | (go_at_call 12; (with_reducible refine (CO2.out _ HX5.out).mono ?_); rintro e w6 ⟨A6, c6, rfl, x6⟩; have s6 := XA.cells x6; obtain ⟨z1, z2, -, -⟩ := x6.va; have HX6 := Lib.hid x6; clear x6))
  go_wp2_with fail
  refine hK.out _ _ (by (try dsimp only); (first | assumption)) (fun hHeld => ?_)
  clear hK K
  try simp only [Act.put, List.setIfInBounds_toArray, List.set_cons_zero, List.set_cons_succ]
  refine wpAnyH_take (i := 7) (oi := ⟨_, _, _, _, _, _⟩) (v := ?_) rfl (by kernel_rfl) (by kernel_rfl) (by kernel_rfl) (fun _ _ _ h => h) (Or.inl ⟨by rfl, ?_⟩) (by assumption) ?_
  rotate_left
  · (intro wS hSw; (try dsimp only at hSw); go_simp <;> with_reducible rfl)
  try simp only [Act.put, List.setIfInBounds_toArray, List.set_cons_zero, List.set_cons_succ]
  refine wpAnyH_take (i := 8) (oi := ⟨_, _, _, _, _, _⟩) (v := ?_) rfl (by kernel_rfl) (by kernel_rfl) (by kernel_rfl) (fun _ _ _ h => h) (Or.inl ⟨by rfl, ?_⟩) (by assumption) ?_
  rotate_left
  · (intro wS hSw; (try dsimp only at hSw); go_simp <;> with_reducible rfl)
  try simp only [Act.put, List.setIfInBounds_toArray, List.set_cons_zero, List.set_cons_succ]
  refine wpAnyH_take (i := 9) (oi := ⟨_, _, _, _, _, _⟩) (v := ?_) rfl (by kernel_rfl) (by kernel_rfl) (by kernel_rfl) (fun _ _ _ h => h) (Or.inl ⟨by rfl, ?_⟩) (by assumption) ?_
  rotate_left
  · (intro wS hSw; (try dsimp only at hSw); go_simp <;> with_reducible rfl)
  try simp only [Act.put, List.setIfInBounds_toArray, List.set_cons_zero, List.set_cons_succ]
  refine wpAnyH_done (by kernel_rfl) ?_ _
  clear s5 s6
  go_wp2_with (first
    | (go_at_call 12; (with_reducible refine (CO3.out _ HX6.out).mono ?_); rintro e w7 ⟨A7, c7, rfl, x7⟩; have HX7 := Lib.hid x7; clear x7)
    | (go_at_call 22; (with_reducible refine (CI1.out _ HX7.out).mono ?_); rintro e w8 ⟨A8, c8, rfl, r8, x8, b8⟩; have HX8 := Lib.hid x8; have HR8 := Lib.hid r8; clear x8 r8 b8)
    | (go_at_call 22; (with_reducible refine (CI2.out _ HX8.out).mono ?_); rintro e w9 ⟨A9, c9, rfl, r9, x9, b9⟩; have HR8' := Lib.hid (own_keep HR8.out b9); have HX9 := Lib.hid x9; have HR9 := Lib.hid r9; clear x9 r9 b9)
    | (go_at_call 19; (with_reducible refine (CS.out _ _ _ _ _ HR8'.out HR9.out).mono ?_); rintro e w10 ⟨rfl, k10, rfl⟩; have x10 := HX9.out.below (((Touch.refl [] w9).drewN k10).below (Nat.le_refl _) (by simp)); obtain ⟨z1, z2, -, -⟩ := x10.va; have HX10 := Lib.hid x10; clear x10)
    | (go_at_call 12; (with_reducible refine (CO4.out _ HX10.out).mono ?_); rintro e w11 ⟨A11, c11, rfl, x11⟩; have HX11 := Lib.hid x11; clear x11))
  go_ret
  exact ⟨rfl, HX11.out.s.1⟩
set_option maxRecDepth 100000 in
set_option maxHeartbeats 8000000 in
theorem cutAll_any (A : Option Addr) (c : Nat) (zs : List Item) (f t x : Nat) (b : Bool) (W : World) (hA : ItemsAt W A zs) (hz : zs.length ≤ 9223372036854775807) (hf : f < 18446744073709551616) (ht : t < 18446744073709551616) (hx : x < 18446744073709551616) :
    Calls Try.prog 5 #[.slice A zs.length c, .agg #[.int .u64 (f : Nat), .int .u64 (t : Nat)], .int .u64 (x : Nat), .bool b] W fun e w' => e = .returned (.bool true) ∧ Below W.heap.size W w' := by
  by_cases bad : 60 < zs.length
  · have CA : Hid (∀ w, Calls Try.prog 9 #[] w fun e w' => e = .returned (.bool true) ∧ Below w.heap.size w w') := fun w => cutAlive_any w w (Below.refl _ _)
    have HBX : Hid (Below W.heap.size W (W.alloc (.cells #[.int .u64 (f : Nat), .int .u64 (t : Nat)] 25))) := (Below.refl _ _).alloc (Nat.le_refl _) _
    obtain ⟨nz, hnz⟩ : ∃ x, zs.length = x := ⟨_, rfl⟩
    rw [hnz] at bad hz ⊢
    clear hA hnz
    by_cases c0 : 60 < nz
    · have d0 : decide ((60 : Int) < (nz : Int)) = true := by simp; omega
      go_enter Try.func5, Try.ntmps5
      go_wp2_with (go_at_call 9; (with_reducible refine (CA.out _).mono ?_); rintro e w1 ⟨rfl, h1⟩)
      go_ret
      exact ⟨rfl, acc HBX.out h1⟩
    have d0 : decide ((60 : Int) < (nz : Int)) = false := by simp; omega
    exfalso
    omega
  · cases hm : mayB f t x
    · exact cutAllNo A c zs f t x b W hA (by omega) hf ht hx hm
    · cases b
      · exact cutAllPlain A c zs f t x W hA (by omega) hf ht hx hm
      · exact cutAllTurned A c zs f t x W hA (by omega) hf ht hx hm
end Go.Proofs.Ytojiblhaiokdcaa
