/-
  What is newer counts, wherever it lies; what is elder, or as old, changes nothing (ViewNewer). (Written by tools/genVN.py.)
-/
import Derived.Test.YthjhfnbcfgkehaaViewSays
namespace Go.Proofs.Ythjhfnbcfgkehaa
open Go.RowKit

abbrev boxO (W : World) (o : AO) : World := W.alloc (.cells o.cells 27)
abbrev boxZ (w : World) : World := w.alloc (.cells #[.int .u64 0, .int .u64 0, .int .i64 0, .int .i64 0] 27)
theorem box_cells (w : World) (o : AO) (T : TypeId) : (w.alloc (.cells o.cells T)).cell? ⟨w.heap.size, 0, none⟩ = some (.int .u64 (o.f : Nat)) ∧ (w.alloc (.cells o.cells T)).cell? ⟨w.heap.size, 1, none⟩ = some (.int .u64 (o.t : Nat)) ∧
    (w.alloc (.cells o.cells T)).cell? ⟨w.heap.size, 2, none⟩ = some (.int .i64 o.n) ∧ (w.alloc (.cells o.cells T)).cell? ⟨w.heap.size, 3, none⟩ = some (.int .i64 o.e) := by
  refine ⟨?_, ?_, ?_, ?_⟩ <;> go_simp
/-- something in a box of its own -/
def OC (w : World) (b : Nat) (o : AO) : Prop := b < w.heap.size ∧ w.cell? ⟨b, 0, none⟩ = some (.int .u64 (o.f : Nat)) ∧ w.cell? ⟨b, 1, none⟩ = some (.int .u64 (o.t : Nat)) ∧ w.cell? ⟨b, 2, none⟩ = some (.int .i64 o.n) ∧ w.cell? ⟨b, 3, none⟩ = some (.int .i64 o.e)
theorem OC.new (w : World) (o : AO) : OC (boxO w o) w.heap.size o := ⟨by simp, box_cells w o _⟩
theorem OC.kept {P : List Nat} {w w1 : World} {b : Nat} {o : AO} (h : OC w b o) (k : Kept P w w1) (hb : b ∈ P) : OC w1 b o := by
  obtain ⟨h0, h1, h2, h3, h4⟩ := h
  exact ⟨Nat.lt_of_lt_of_le h0 k.size, (k.cell (p := ⟨b, 0, none⟩) hb h0).trans h1, (k.cell (p := ⟨b, 1, none⟩) hb h0).trans h2, (k.cell (p := ⟨b, 2, none⟩) hb h0).trans h3, (k.cell (p := ⟨b, 3, none⟩) hb h0).trans h4⟩
theorem OC.below {w w1 : World} {b : Nat} {o : AO} (h : OC w b o) (k : Below w.heap.size w w1) : OC w1 b o := h.kept (P := [b]) (Kept.below k) (by simp)
/-- what stands at a point of a view -/
theorem VX.at_some {VH : World → Nat → List AO → List Nat → Prop} (L : ViewLaws VH) {W w : World} {P : List Nat} {g : Nat} {a : List AO} (h : VX VH W w P g a) {x : Nat} (hx : x < 18446744073709551616) {u : Int × Int} (hk : kn a x = some u) :
    Calls Try.prog 9 #[.pointer (some ⟨g, 0, none⟩), .int .u64 (x : Nat)] w fun e w' => (∃ p : AO, e = .returned (.tuple #[.agg #[.int .u64 (p.f : Nat), .int .u64 (p.t : Nat), .int .i64 u.1, .int .i64 u.2], .bool true]) ∧ p ∈ a ∧ p.has x = true ∧ p.val = u) ∧ Below w.heap.size w w' := by
  refine (h.owner L x hx).mono ?_
  rintro e w' ⟨h1, h2⟩
  obtain ⟨p, hp, h3, rfl⟩ := kn_some hk
  exact ⟨⟨p, h1.1 p hp h3, hp, h3, rfl⟩, h2⟩
theorem VX.at_none {VH : World → Nat → List AO → List Nat → Prop} (L : ViewLaws VH) {W w : World} {P : List Nat} {g : Nat} {a : List AO} (h : VX VH W w P g a) {x : Nat} (hx : x < 18446744073709551616) (hk : kn a x = none) :
    Calls Try.prog 9 #[.pointer (some ⟨g, 0, none⟩), .int .u64 (x : Nat)] w fun e w' => e = .returned (.tuple #[.agg #[.int .u64 0, .int .u64 0, .int .i64 0, .int .i64 0], .bool false]) ∧ Below w.heap.size w w' := by
  refine (h.owner L x hx).mono ?_
  rintro e w' ⟨h1, h2⟩
  exact ⟨h1.2 (kn_none hk), h2⟩
section
variable {VH : World → Nat → List AO → List Nat → Prop}
set_option maxRecDepth 20000 in
set_option maxHeartbeats 4000000 in
theorem viewNewer_any (L : ViewLaws VH) (A : Option Addr) (c n : Nat) (os : List AO) (o : AO) (x : Nat) (W : World) (hA : SaysAt W A os) (hn : os.length = n) (ho : o.Fit) (hx : x < 18446744073709551616) :
    Calls Try.prog 3 #[.slice A n c, .agg o.cells, .int .u64 (x : Nat)] W fun e w' => e = .returned (.bool true) ∧ Below W.heap.size W w' := by
  have CA := Lib.hid (viewAlive_any L)
  have bw : Below W.heap.size W (boxO W o) := (Below.refl W.heap.size W).alloc (Nat.le_refl _) _
  have BW := Lib.hid bw
  have HA := Lib.hid (hA.below bw)
  have HN := Lib.hid hn
  have OB : Hid (OC (boxO W o) W.heap.size o) := OC.new W o
  obtain ⟨-, e0, e1, e2, e3⟩ := OB.out
  clear hA bw hn
  by_cases q0 : 40 < n
  · have d0 : decide (40 < (n : Int)) = true := decide_eq_true (by omega)
    go_enter Try.func3, Try.ntmps3
    go_wp2_with (go_at_call 7; (with_reducible refine (CA.out _).mono ?_); rintro e w1 ⟨rfl, h1⟩)
    go_ret
    exact ⟨rfl, acc BW.out h1⟩
  have d0 : decide (40 < (n : Int)) = false := decide_eq_false (by omega)
  by_cases q1 : o.n < 0
  · have d1 : decide (o.n < 0) = true := decide_eq_true (by omega)
    go_enter Try.func3, Try.ntmps3
    go_wp2_with (go_at_call 7; (with_reducible refine (CA.out _).mono ?_); rintro e w1 ⟨rfl, h1⟩)
    go_ret
    exact ⟨rfl, acc BW.out h1⟩
  have d1 : decide (o.n < 0) = false := decide_eq_false (by omega)
  by_cases q2 : 255 < o.n
  · have d2 : decide (255 < o.n) = true := decide_eq_true (by omega)
    go_enter Try.func3, Try.ntmps3
    go_wp2_with (go_at_call 7; (with_reducible refine (CA.out _).mono ?_); rintro e w1 ⟨rfl, h1⟩)
    go_ret
    exact ⟨rfl, acc BW.out h1⟩
  have d2 : decide (255 < o.n) = false := decide_eq_false (by omega)
  by_cases q3 : o.e < 0
  · have d3 : decide (o.e < 0) = true := decide_eq_true (by omega)
    go_enter Try.func3, Try.ntmps3
    go_wp2_with (go_at_call 7; (with_reducible refine (CA.out _).mono ?_); rintro e w1 ⟨rfl, h1⟩)
    go_ret
    exact ⟨rfl, acc BW.out h1⟩
  have d3 : decide (o.e < 0) = false := decide_eq_false (by omega)
  have hm : o.may := ⟨by omega, by omega, by omega⟩
  have CL : Hid (∀ w P g a s C, AO.Fit s → C.length ≤ 1000 → Turns a C → VX VH (boxO W o) w P g a → Calls Try.prog 8 #[.pointer (some ⟨g, 0, none⟩), .agg s.cells] w fun e w' => (∃ b, e = .returned (.bool b)) ∧ ∃ a1, VX VH (boxO W o) w' P g a1 ∧ Turns a1 (s.f :: s.t :: C)) := fun w P g a s C hs hl hC h => by
    refine (h.learn L s hs (by have := (h.arcs L).few hC; omega)).mono ?_
    rintro e w' ⟨b, a1, rfl, h1, -, h2⟩
    exact ⟨⟨b, rfl⟩, a1, h1, h2.turns hs hC⟩
  go_enter Try.func3, Try.ntmps3
  go_wp2_with (go_at_call 7; (with_reducible refine (CA.out _).mono ?_); rintro e w1 ⟨rfl, h1⟩; have H1 := Lib.hid h1; clear h1)
  have X0 : Hid (VX VH (boxO W o) (w1.alloc (.cells VZ 32)) [] w1.heap.size []) := VX.zero L H1.out (by simp)
  obtain ⟨g, hg⟩ : ∃ g, w1.heap.size = g := ⟨_, rfl⟩
  rw [hg] at X0 ⊢
  clear hg H1
  go_loopg [9, 41] (n + 1) (fun gh s9 s41 wx => ∃ (i : Nat) (a : List AO) (C : List Nat), i + gh = n + 1 ∧ i ≤ n ∧ s41 = .int .i64 (i : Nat) ∧ C.length = 2 * i ∧ Hid (VX VH (boxO W o) wx [] g a) ∧ Hid (Turns a C))
  case atStart => exact ⟨0, [], [], by omega, by omega, rfl, rfl, X0.out, Turns.nil⟩
  case round =>
    obtain ⟨i, a, C, hig, hi, rfl, hCl, HX, HC⟩ := hrel
    by_cases hlt : i < n
    · have i1 : (i : Int) < (n : Int) := by omega
      have zi : IntKind.i64.wrap ((i : Int) + 1) = (i : Int) + 1 := by rw [IntKind.wrap_i64]; omega
      obtain ⟨s, hs⟩ : ∃ s, os[i]? = some s := ⟨_, List.getElem?_eq_getElem (by rw [HN.out]; exact hlt)⟩
      obtain ⟨q, qo, hq⟩ := HA.out.below HX.out.base
      obtain ⟨rfl, -, hr, hf⟩ := hq i s hs
      have HR := Lib.hid hr
      have hsz : (Try.prog.info? 27).map (·.size) = some [Value.int .u64 (s.f : Nat), .int .u64 (s.t : Nat), .int .i64 s.n, .int .i64 s.e].length := by kernel_rfl
      have cl := Lib.hid (CL.out _ [] g a s C hf (by omega) HC.out (HX.out.below L ((Below.refl _ _).alloc (Nat.le_refl _) (.cells s.cells 27))))
      clear hq hr hs
      go_wp2_with (first
        | (with_reducible (show wpList _ _ _ (⟨some 44, Op.load _ _, _, _, _, _⟩ :: _) _ _); go_must (refine wpList_load_mid rfl 27 (.tmp 43) rfl q (qo + i * 4) rfl [.int .u64 (s.f : Nat), .int .u64 (s.t : Nat), .int .i64 s.n, .int .i64 s.e] _ HR.out Try.underlying27 rfl hsz ?_))
        | (go_at_call 8; (with_reducible refine (cl.out).mono ?_); rintro e w3 ⟨⟨b3, rfl⟩, a3, x3, k3⟩; have X3 := Lib.hid x3; have K3 := Lib.hid k3; clear x3 k3))
      go_roundg (gk - 1)
      case measure => omega
      case rel => exact ⟨i + 1, a3, s.f :: s.t :: C, by omega, by omega, by go_num, by simp only [List.length_cons]; omega, X3, K3⟩
    · obtain rfl : i = n := by omega
      clear HN X0 e0 e1 e2 e3 HA
      have HFW : Hid (a.length ≤ 10000) := by show a.length ≤ 10000; have := (HX.out.arcs L).few HC.out; omega
      obtain ⟨u, hu⟩ : ∃ u, learnt o (kn a) x = u := ⟨_, rfl⟩
      have CL2 : Hid (∀ w P, VX VH (boxO W o) w P g a → Calls Try.prog 8 #[.pointer (some ⟨g, 0, none⟩), .agg #[.int .u64 (o.f : Nat), .int .u64 (o.t : Nat), .int .i64 o.n, .int .i64 o.e]] w fun e w' => (∃ b, e = .returned (.bool b)) ∧ ∃ a1, VX VH (boxO W o) w' P g a1 ∧ Kept P w w' ∧
          Hid (kn a1 x = u) ∧ Hid ((∀ y, y < 18446744073709551616 → inB o.f o.t y = true → ∃ v, kn a1 y = some v ∧ o.e ≤ v.2) ∧ a1.length ≤ 10000)) := fun w P h => by
        refine (h.learn L o ho HFW.out).mono ?_
        rintro e w' ⟨b, a1, rfl, h1, h2, h3⟩
        have h4 := (h1.arcs L).few (h3.turns ho HC.out)
        simp only [List.length_cons] at h4
        rcases h3 with ⟨-, h3, -⟩ | ⟨h3, _⟩
        · refine ⟨⟨b, rfl⟩, a1, h1, h2, by rw [← hu]; exact h3 x hx, fun y hy hin => ?_, by omega⟩
          rw [h3 y hy]
          unfold learnt
          by_cases z : ∀ v, kn a y = some v → v.2 < o.e
          · rw [if_pos ⟨hin, z⟩]
            exact ⟨_, rfl, Int.le_refl _⟩
          · rw [if_neg (fun y => z y.2)]
            cases hk : kn a y with
            | none => exact absurd (fun v hv => by rw [hk] at hv; cases hv) z
            | some v => exact ⟨v, rfl, Int.not_lt.1 fun w => z fun v' hv' => by rw [hk] at hv'; obtain rfl := Option.some.inj hv'; exact w⟩
        · exact absurd hm h3
      have CL3 : Hid (∀ w P a1, VX VH (boxO W o) w P g a1 → ((∀ y, y < 18446744073709551616 → inB o.f o.t y = true → ∃ v, kn a1 y = some v ∧ o.e ≤ v.2) ∧ a1.length ≤ 10000) → Calls Try.prog 8 #[.pointer (some ⟨g, 0, none⟩), .agg #[.int .u64 (o.f : Nat), .int .u64 (o.t : Nat), .int .i64 o.n, .int .i64 o.e]] w fun e w' => e = .returned (.bool false) ∧ Below (boxO W o).heap.size (boxO W o) w') := fun w P a1 h k => by
        refine (h.learn L o ho k.2).mono ?_
        rintro e w' ⟨b, a2, rfl, h1, h2, h3⟩
        obtain ⟨rfl, -⟩ := h3.elder k.1
        exact ⟨rfl, h1.base⟩
      have CI : Hid (∀ w, Calls Try.prog 10 #[.agg #[.int .u64 (o.f : Nat), .int .u64 (o.t : Nat)], .int .u64 (x : Nat)] w fun e w' => e = .returned (.bool (inB o.f o.t x)) ∧ Below w.heap.size w w') := fun w => in_any o.f o.t x w ho.f ho.t hx
      obtain ⟨iv, hiv⟩ : ∃ iv, inB o.f o.t x = iv := ⟨_, rfl⟩
      rw [hiv] at CI
      have hleg : (iv = false ∧ kn a x = none ∧ u = none) ∨ (∃ v, iv = false ∧ kn a x = some v ∧ u = some v) ∨ (∃ v, iv = true ∧ kn a x = some v ∧ decide (v.2 ≥ o.e) = true ∧ u = some v) ∨
          (iv = true ∧ kn a x = none ∧ u = some (o.n, o.e)) ∨ (∃ v, iv = true ∧ kn a x = some v ∧ decide (v.2 ≥ o.e) = false ∧ u = some (o.n, o.e)) := by
        subst hu
        unfold learnt
        rw [hiv]
        cases iv with
        | false =>
          rw [if_neg (fun z => by cases z.1)]
          cases hk : kn a x with
          | none => exact .inl ⟨rfl, rfl, rfl⟩
          | some v => exact .inr (.inl ⟨v, rfl, rfl, rfl⟩)
        | true =>
          cases hk : kn a x with
          | none => exact .inr (.inr (.inr (.inl ⟨rfl, rfl, if_pos ⟨rfl, fun v hv => by cases hv⟩⟩)))
          | some v =>
            by_cases z : v.2 < o.e
            · exact .inr (.inr (.inr (.inr ⟨v, rfl, rfl, decide_eq_false (by omega), if_pos ⟨rfl, fun v' hv' => by obtain rfl := Option.some.inj hv'; exact z⟩⟩)))
            · exact .inr (.inr (.inl ⟨v, rfl, rfl, decide_eq_true (by omega), if_neg (fun y => z (y.2 v rfl))⟩))
      clear hu hiv CL
      rcases hleg with ⟨rfl, hk, rfl⟩ | ⟨⟨v1, v2⟩, rfl, hk, rfl⟩ | ⟨⟨v1, v2⟩, rfl, hk, hv, rfl⟩ | ⟨rfl, hk, rfl⟩ | ⟨⟨v1, v2⟩, rfl, hk, hv, rfl⟩
      · go_wp2_with (first
          | (go_at_call 10; (with_reducible refine (CI.out _).mono ?_); rintro e w5 ⟨rfl, hb5⟩; have X5 := Lib.hid (X4.out.below L hb5); obtain ⟨-, f0, f1, f2, f3⟩ := OB.out.below X5.out.base; obtain ⟨-, g0, g1, g2, g3⟩ := O4.out.below hb5; obtain ⟨-, m0, m1, m2, m3⟩ := N4.out.below hb5; clear hb5)
          | (go_at_call 9; (with_reducible refine (VX.at_none L X3.out hx u3.out).mono ?_); rintro e w4 ⟨rfl, hb4⟩; have hb4a : Below w3.heap.size w3 (boxZ w4) := hb4.alloc hb4.size _; have X4 : Hid (VX VH (boxO W o) (boxZ w4) [w2.heap.size] g a1) := X3.out.below L hb4a; have O4 : Hid (OC (boxZ w4) w2.heap.size ZO) := O3.out.below hb4a; have N4 : Hid (OC (boxZ w4) w4.heap.size ZO) := OC.new w4 ZO; obtain ⟨-, f0, f1, f2, f3⟩ := OB.out.below X4.out.base; clear hb4 hb4a)
          | (go_at_call 8; (with_reducible refine (CL2.out _ _ X2.out).mono ?_); rintro e w3 ⟨⟨b3, rfl⟩, a1, x3, k3, u3, el⟩; have X3 := Lib.hid x3; have O3 := Lib.hid (O2.out.kept k3 (by simp)); clear x3 k3 f0 f1 f2 f3)
          | (go_at_call 9; (with_reducible refine (VX.at_none L HX.out hx hk).mono ?_); rintro e w2 ⟨rfl, hb2⟩; have hb2a : Below wr.heap.size wr (boxZ w2) := hb2.alloc hb2.size _; have X2 : Hid (VX VH (boxO W o) (boxZ w2) [w2.heap.size] g a) := HX.out.more L hb2a (Q := [w2.heap.size]) (fun q hq => by simp at hq; subst hq; exact ⟨hb2.size, by simp⟩); have O2 : Hid (OC (boxZ w2) w2.heap.size ZO) := OC.new w2 ZO; obtain ⟨-, f0, f1, f2, f3⟩ := OB.out.below X2.out.base; clear hb2 hb2a))
        go_ret
        exact ⟨rfl, acc BW.out X5.out.base⟩
      · go_wp2_with (first
          | (go_at_call 10; (with_reducible refine (CI.out _).mono ?_); rintro e w5 ⟨rfl, hb5⟩; have X5 := Lib.hid (X4.out.below L hb5); obtain ⟨-, f0, f1, f2, f3⟩ := OB.out.below X5.out.base; obtain ⟨-, g0, g1, g2, g3⟩ := O4.out.below hb5; obtain ⟨-, m0, m1, m2, m3⟩ := N4.out.below hb5; clear hb5)
          | (go_at_call 9; (with_reducible refine (VX.at_some L X3.out hx u3.out).mono ?_); rintro e w4 ⟨⟨p2, rfl, -, -, -⟩, hb4⟩; have hb4a : Below w3.heap.size w3 (boxO w4 ⟨p2.f, p2.t, v1, v2⟩) := hb4.alloc hb4.size _; have X4 : Hid (VX VH (boxO W o) (boxO w4 ⟨p2.f, p2.t, v1, v2⟩) [w2.heap.size] g a1) := X3.out.below L hb4a; have O4 : Hid (OC (boxO w4 ⟨p2.f, p2.t, v1, v2⟩) w2.heap.size ⟨p.f, p.t, v1, v2⟩) := O3.out.below hb4a; have N4 : Hid (OC (boxO w4 ⟨p2.f, p2.t, v1, v2⟩) w4.heap.size ⟨p2.f, p2.t, v1, v2⟩) := OC.new w4 ⟨p2.f, p2.t, v1, v2⟩; obtain ⟨-, f0, f1, f2, f3⟩ := OB.out.below X4.out.base; clear hb4 hb4a)
          | (go_at_call 8; (with_reducible refine (CL2.out _ _ X2.out).mono ?_); rintro e w3 ⟨⟨b3, rfl⟩, a1, x3, k3, u3, el⟩; have X3 := Lib.hid x3; have O3 := Lib.hid (O2.out.kept k3 (by simp)); clear x3 k3 f0 f1 f2 f3)
          | (go_at_call 9; (with_reducible refine (VX.at_some L HX.out hx hk).mono ?_); rintro e w2 ⟨⟨p, rfl, -, -, -⟩, hb2⟩; have hb2a : Below wr.heap.size wr (boxO w2 ⟨p.f, p.t, v1, v2⟩) := hb2.alloc hb2.size _; have X2 : Hid (VX VH (boxO W o) (boxO w2 ⟨p.f, p.t, v1, v2⟩) [w2.heap.size] g a) := HX.out.more L hb2a (Q := [w2.heap.size]) (fun q hq => by simp at hq; subst hq; exact ⟨hb2.size, by simp⟩); have O2 : Hid (OC (boxO w2 ⟨p.f, p.t, v1, v2⟩) w2.heap.size ⟨p.f, p.t, v1, v2⟩) := OC.new w2 ⟨p.f, p.t, v1, v2⟩; obtain ⟨-, f0, f1, f2, f3⟩ := OB.out.below X2.out.base; clear hb2 hb2a))
        go_ret
        exact ⟨rfl, acc BW.out X5.out.base⟩
      · go_wp2_with (first
          | (go_at_call 10; (with_reducible refine (CI.out _).mono ?_); rintro e w5 ⟨rfl, hb5⟩; have X5 := Lib.hid (X4.out.below L hb5); obtain ⟨-, f0, f1, f2, f3⟩ := OB.out.below X5.out.base; obtain ⟨-, g0, g1, g2, g3⟩ := O4.out.below hb5; obtain ⟨-, m0, m1, m2, m3⟩ := N4.out.below hb5; clear hb5)
          | (go_at_call 9; (with_reducible refine (VX.at_some L X3.out hx u3.out).mono ?_); rintro e w4 ⟨⟨p2, rfl, -, -, -⟩, hb4⟩; have hb4a : Below w3.heap.size w3 (boxO w4 ⟨p2.f, p2.t, v1, v2⟩) := hb4.alloc hb4.size _; have X4 : Hid (VX VH (boxO W o) (boxO w4 ⟨p2.f, p2.t, v1, v2⟩) [w2.heap.size] g a1) := X3.out.below L hb4a; have O4 : Hid (OC (boxO w4 ⟨p2.f, p2.t, v1, v2⟩) w2.heap.size ⟨p.f, p.t, v1, v2⟩) := O3.out.below hb4a; have N4 : Hid (OC (boxO w4 ⟨p2.f, p2.t, v1, v2⟩) w4.heap.size ⟨p2.f, p2.t, v1, v2⟩) := OC.new w4 ⟨p2.f, p2.t, v1, v2⟩; obtain ⟨-, f0, f1, f2, f3⟩ := OB.out.below X4.out.base; clear hb4 hb4a)
          | (go_at_call 8; (with_reducible refine (CL2.out _ _ X2.out).mono ?_); rintro e w3 ⟨⟨b3, rfl⟩, a1, x3, k3, u3, el⟩; have X3 := Lib.hid x3; have O3 := Lib.hid (O2.out.kept k3 (by simp)); clear x3 k3 f0 f1 f2 f3)
          | (go_at_call 9; (with_reducible refine (VX.at_some L HX.out hx hk).mono ?_); rintro e w2 ⟨⟨p, rfl, -, -, -⟩, hb2⟩; have hb2a : Below wr.heap.size wr (boxO w2 ⟨p.f, p.t, v1, v2⟩) := hb2.alloc hb2.size _; have X2 : Hid (VX VH (boxO W o) (boxO w2 ⟨p.f, p.t, v1, v2⟩) [w2.heap.size] g a) := HX.out.more L hb2a (Q := [w2.heap.size]) (fun q hq => by simp at hq; subst hq; exact ⟨hb2.size, by simp⟩); have O2 : Hid (OC (boxO w2 ⟨p.f, p.t, v1, v2⟩) w2.heap.size ⟨p.f, p.t, v1, v2⟩) := OC.new w2 ⟨p.f, p.t, v1, v2⟩; obtain ⟨-, f0, f1, f2, f3⟩ := OB.out.below X2.out.base; clear hb2 hb2a))
        go_ret
        exact ⟨rfl, acc BW.out X5.out.base⟩
      · go_wp2_with (first
          | (go_at_call 10; (with_reducible refine (CI.out _).mono ?_); rintro e w5 ⟨rfl, hb5⟩; have X5 := Lib.hid (X4.out.below L hb5); obtain ⟨-, f0, f1, f2, f3⟩ := OB.out.below X5.out.base; obtain ⟨-, g0, g1, g2, g3⟩ := O4.out.below hb5; obtain ⟨-, m0, m1, m2, m3⟩ := N4.out.below hb5; clear hb5)
          | (go_at_call 8; (with_reducible refine (CL3.out _ _ _ X5.out el.out).mono ?_); rintro e w6 ⟨rfl, h6⟩)
          | (go_at_call 9; (with_reducible refine (VX.at_some L X3.out hx u3.out).mono ?_); rintro e w4 ⟨⟨p2, rfl, -, -, -⟩, hb4⟩; have hb4a : Below w3.heap.size w3 (boxO w4 ⟨p2.f, p2.t, o.n, o.e⟩) := hb4.alloc hb4.size _; have X4 : Hid (VX VH (boxO W o) (boxO w4 ⟨p2.f, p2.t, o.n, o.e⟩) [w2.heap.size] g a1) := X3.out.below L hb4a; have O4 : Hid (OC (boxO w4 ⟨p2.f, p2.t, o.n, o.e⟩) w2.heap.size ZO) := O3.out.below hb4a; have N4 : Hid (OC (boxO w4 ⟨p2.f, p2.t, o.n, o.e⟩) w4.heap.size ⟨p2.f, p2.t, o.n, o.e⟩) := OC.new w4 ⟨p2.f, p2.t, o.n, o.e⟩; obtain ⟨-, f0, f1, f2, f3⟩ := OB.out.below X4.out.base; clear hb4 hb4a)
          | (go_at_call 8; (with_reducible refine (CL2.out _ _ X2.out).mono ?_); rintro e w3 ⟨⟨b3, rfl⟩, a1, x3, k3, u3, el⟩; have X3 := Lib.hid x3; have O3 := Lib.hid (O2.out.kept k3 (by simp)); clear x3 k3 f0 f1 f2 f3)
          | (go_at_call 9; (with_reducible refine (VX.at_none L HX.out hx hk).mono ?_); rintro e w2 ⟨rfl, hb2⟩; have hb2a : Below wr.heap.size wr (boxZ w2) := hb2.alloc hb2.size _; have X2 : Hid (VX VH (boxO W o) (boxZ w2) [w2.heap.size] g a) := HX.out.more L hb2a (Q := [w2.heap.size]) (fun q hq => by simp at hq; subst hq; exact ⟨hb2.size, by simp⟩); have O2 : Hid (OC (boxZ w2) w2.heap.size ZO) := OC.new w2 ZO; obtain ⟨-, f0, f1, f2, f3⟩ := OB.out.below X2.out.base; clear hb2 hb2a))
        go_ret
        exact ⟨rfl, acc BW.out h6⟩
      · go_wp2_with (first
          | (go_at_call 10; (with_reducible refine (CI.out _).mono ?_); rintro e w5 ⟨rfl, hb5⟩; have X5 := Lib.hid (X4.out.below L hb5); obtain ⟨-, f0, f1, f2, f3⟩ := OB.out.below X5.out.base; obtain ⟨-, g0, g1, g2, g3⟩ := O4.out.below hb5; obtain ⟨-, m0, m1, m2, m3⟩ := N4.out.below hb5; clear hb5)
          | (go_at_call 8; (with_reducible refine (CL3.out _ _ _ X5.out el.out).mono ?_); rintro e w6 ⟨rfl, h6⟩)
          | (go_at_call 9; (with_reducible refine (VX.at_some L X3.out hx u3.out).mono ?_); rintro e w4 ⟨⟨p2, rfl, -, -, -⟩, hb4⟩; have hb4a : Below w3.heap.size w3 (boxO w4 ⟨p2.f, p2.t, o.n, o.e⟩) := hb4.alloc hb4.size _; have X4 : Hid (VX VH (boxO W o) (boxO w4 ⟨p2.f, p2.t, o.n, o.e⟩) [w2.heap.size] g a1) := X3.out.below L hb4a; have O4 : Hid (OC (boxO w4 ⟨p2.f, p2.t, o.n, o.e⟩) w2.heap.size ⟨p.f, p.t, v1, v2⟩) := O3.out.below hb4a; have N4 : Hid (OC (boxO w4 ⟨p2.f, p2.t, o.n, o.e⟩) w4.heap.size ⟨p2.f, p2.t, o.n, o.e⟩) := OC.new w4 ⟨p2.f, p2.t, o.n, o.e⟩; obtain ⟨-, f0, f1, f2, f3⟩ := OB.out.below X4.out.base; clear hb4 hb4a)
          | (go_at_call 8; (with_reducible refine (CL2.out _ _ X2.out).mono ?_); rintro e w3 ⟨⟨b3, rfl⟩, a1, x3, k3, u3, el⟩; have X3 := Lib.hid x3; have O3 := Lib.hid (O2.out.kept k3 (by simp)); clear x3 k3 f0 f1 f2 f3)
          | (go_at_call 9; (with_reducible refine (VX.at_some L HX.out hx hk).mono ?_); rintro e w2 ⟨⟨p, rfl, -, -, -⟩, hb2⟩; have hb2a : Below wr.heap.size wr (boxO w2 ⟨p.f, p.t, v1, v2⟩) := hb2.alloc hb2.size _; have X2 : Hid (VX VH (boxO W o) (boxO w2 ⟨p.f, p.t, v1, v2⟩) [w2.heap.size] g a) := HX.out.more L hb2a (Q := [w2.heap.size]) (fun q hq => by simp at hq; subst hq; exact ⟨hb2.size, by simp⟩); have O2 : Hid (OC (boxO w2 ⟨p.f, p.t, v1, v2⟩) w2.heap.size ⟨p.f, p.t, v1, v2⟩) := OC.new w2 ⟨p.f, p.t, v1, v2⟩; obtain ⟨-, f0, f1, f2, f3⟩ := OB.out.below X2.out.base; clear hb2 hb2a))
        go_ret
        exact ⟨rfl, acc BW.out h6⟩
end
end Go.Proofs.Ythjhfnbcfgkehaa
