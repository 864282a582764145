/-
  What is put in is got, what is taken away is not there, at a hold that has all (HoldSees). (Written by tools/genHE.py over hdsees.head.)
-/
import Derived.Test.YthgndgoljchnfaaGreatHdAlive
import Derived.Test.YthgndgoljchnfaaGreatHdSeesP
import Derived.Test.YthgndgoljchnfaaGreatHdPair
import Derived.Test.YthgndgoljchnfaaGreatMapStr
import Derived.Test.YthgndgoljchnfaaGreatHg06
import Derived.Deep.CutBlock
namespace Go.Proofs.YthgndgoljchnfaaGreat
open Go.RowKit

theorem five_new (w : World) (a b c d e : Value) (T : TypeId) : (w.alloc (.cells #[a, b, c, d, e] T)).cell? ⟨w.heap.size, 0, none⟩ = some a ∧ (w.alloc (.cells #[a, b, c, d, e] T)).cell? ⟨w.heap.size, 1, none⟩ = some b ∧ (w.alloc (.cells #[a, b, c, d, e] T)).cell? ⟨w.heap.size, 2, none⟩ = some c ∧ (w.alloc (.cells #[a, b, c, d, e] T)).cell? ⟨w.heap.size, 3, none⟩ = some d ∧ (w.alloc (.cells #[a, b, c, d, e] T)).cell? ⟨w.heap.size, 4, none⟩ = some e := by
  refine ⟨?_, ?_, ?_, ?_, ?_⟩ <;> go_simp
theorem six_froz (w : World) (a b c d e f : Value) (T : TypeId) : (w.alloc (.cells #[a, b, c, d, e, f] T)).frozen? ⟨w.heap.size, 0, none⟩ = false ∧ (w.alloc (.cells #[a, b, c, d, e, f] T)).frozen? ⟨w.heap.size, 1, none⟩ = false := by
  refine ⟨?_, ?_⟩ <;> go_simp
/-- the boxes of a round: what is asked, what is told, what is wanted -/
structure Five (w : World) (q : Nat) (op : Int) (k v tt : ByteArray) (mo : Int) : Prop where
  c0 : w.cell? ⟨q, 0, none⟩ = some (.int .i64 op)
  c1 : w.cell? ⟨q, 1, none⟩ = some (.string k)
  c2 : w.cell? ⟨q, 2, none⟩ = some (.string v)
  c3 : w.cell? ⟨q, 3, none⟩ = some (.string tt)
  c4 : w.cell? ⟨q, 4, none⟩ = some (.int .i64 mo)
theorem Five.kept {w w1 : World} {q : Nat} {op mo : Int} {k v tt : ByteArray} {P : List Nat} (h : Five w q op k v tt mo) (hk : Kept P w w1) (hq : q ∈ P) : Five w1 q op k v tt mo := by
  have hl : q < w.heap.size := World.block_lt_of_cell? w _ h.c0
  exact ⟨(hk.cell (p := ⟨q, 0, none⟩) hq hl).trans h.c0, (hk.cell (p := ⟨q, 1, none⟩) hq hl).trans h.c1, (hk.cell (p := ⟨q, 2, none⟩) hq hl).trans h.c2, (hk.cell (p := ⟨q, 3, none⟩) hq hl).trans h.c3, (hk.cell (p := ⟨q, 4, none⟩) hq hl).trans h.c4⟩
theorem Five.below {w w1 : World} {q : Nat} {op mo : Int} {k v tt : ByteArray} (h : Five w q op k v tt mo) (hb : Below w.heap.size w w1) : Five w1 q op k v tt mo := h.kept (P := [q]) (Kept.below hb) (by simp)
section
variable {VD : World → Nat → HO → List Nat → Prop}
/-- other blocks are written -/
theorem DX.wrote (L : HoldLaws VD) {V w w1 : World} {P G : List Nat} {g : Nat} {s : HO} (h : DX VD V w P g s) (t : Touch G w w1) (hG : ∀ q ∈ G, q ∈ P ∧ V.heap.size ≤ q) : DX VD V w1 P g s := by
  obtain ⟨x, ⟨F, b, c⟩, d⟩ := h
  exact ⟨Touch.acc x t (fun q hq => (hG q hq).2), ⟨F, L.touch b t (fun q hq z => (c q hq).2 (hG q z).1), c⟩, fun q hq => Nat.lt_of_lt_of_le (d q hq) t.size⟩
/-- the hold, and the map beside it -/
structure SeX (VD : World → Nat → HO → List Nat → Prop) (W w : World) (g bm : Nat) (its : List Item) (n m : Nat) (f : ByteArray → Option ByteArray) : Prop where
  dx : DX VD W w [bm] g (Se its)
  ms : MS w bm n f m
  lk : Like its f m
  bm : W.heap.size ≤ bm
theorem SeX.below (L : HoldLaws VD) {W w w1 : World} {g bm n m : Nat} {its : List Item} {f : ByteArray → Option ByteArray} (h : SeX VD W w g bm its n m f) (hb : Below w.heap.size w w1) : SeX VD W w1 g bm its n m f :=
  ⟨h.dx.below L hb, h.ms.touch (Touch.ofBelow (F := []) hb) (by simp), h.lk, h.bm⟩
/-- at the switch: the hold, the map, what was asked, what was told -/
structure SwX (VD : World → Nat → HO → List Nat → Prop) (W w : World) (g qa bm qt qw : Nat) (its : List Item) (n m : Nat) (f : ByteArray → Option ByteArray) (op : Int) (k v tt : ByteArray) (mo : Int) (er val S : Value) : Prop where
  dx : DX VD W w [qw, qt, qa, bm] g (Se its)
  ms : MS w bm n f m
  ask : Five w qa op k v tt mo
  told : Six w qt er val S (.bool false) (.string ⟨#[]⟩) (.int .i64 0)
theorem Six.touch {w w1 : World} {q : Nat} {a b c d e f : Value} {G : List Nat} (h : Six w q a b c d e f) (t : Touch G w w1) (hq : q ∉ G) : Six w1 q a b c d e f := h.kept (P := [q]) ⟨G, t, fun x hx z => hq (by simp at hx; rwa [← hx])⟩ (by simp)
theorem Six.set0 {w : World} {q : Nat} {a b c d e f : Value} (h : Six w q a b c d e f) (u : Value) : Six (w.setCell ⟨q, 0, none⟩ u) q u b c d e f := by
  obtain ⟨h0, h1, h2, h3, h4, h5⟩ := h
  refine ⟨?_, ?_, ?_, ?_, ?_, ?_⟩ <;> go_simp
theorem Six.set1 {w : World} {q : Nat} {a b c d e f : Value} (h : Six w q a b c d e f) (u : Value) : Six (w.setCell ⟨q, 1, none⟩ u) q a u c d e f := by
  obtain ⟨h0, h1, h2, h3, h4, h5⟩ := h
  refine ⟨?_, ?_, ?_, ?_, ?_, ?_⟩ <;> go_simp
theorem Five.touch {w w1 : World} {q : Nat} {op mo : Int} {k v tt : ByteArray} {G : List Nat} (h : Five w q op k v tt mo) (t : Touch G w w1) (hq : q ∉ G) : Five w1 q op k v tt mo := h.kept (P := [q]) ⟨G, t, fun x hx z => hq (by simp at hx; rwa [← hx])⟩ (by simp)
theorem SwX.wrote (L : HoldLaws VD) {W w w1 : World} {g qa bm qt qw n m : Nat} {its : List Item} {f : ByteArray → Option ByteArray} {op mo : Int} {k v tt : ByteArray} {er val S : Value} (h : SwX VD W w g qa bm qt qw its n m f op k v tt mo er val S) (t : Touch [qw] w w1)
    (h1 : qw ≠ qa) (h2 : qw ≠ qt) (h3 : qw ≠ bm) (h4 : W.heap.size ≤ qw) : SwX VD W w1 g qa bm qt qw its n m f op k v tt mo er val S :=
  ⟨h.dx.wrote L t (fun q hq => by simp at hq; subst hq; exact ⟨by simp, h4⟩), h.ms.touch t (by simp; exact fun e => h3 e.symm), h.ask.touch t (by simp; exact fun e => h1 e.symm), h.told.touch t (by simp; exact fun e => h2 e.symm)⟩
theorem SwX.map (L : HoldLaws VD) {W w w1 : World} {g qa bm qt qw n n1 m m1 : Nat} {its : List Item} {f f1 : ByteArray → Option ByteArray} {op mo : Int} {k v tt : ByteArray} {er val S : Value} (h : SwX VD W w g qa bm qt qw its n m f op k v tt mo er val S) (t : Touch [bm] w w1) (hm : MS w1 bm n1 f1 m1)
    (h1 : qa ≠ bm) (h2 : qt ≠ bm) (h4 : W.heap.size ≤ bm) : SwX VD W w1 g qa bm qt qw its n1 m1 f1 op k v tt mo er val S :=
  ⟨h.dx.wrote L t (fun q hq => by simp at hq; subst hq; exact ⟨by simp, h4⟩), hm, h.ask.touch t (by simp; exact h1), h.told.touch t (by simp; exact h2)⟩
theorem SwX.below (L : HoldLaws VD) {W w w1 : World} {g qa bm qt qw n m : Nat} {its : List Item} {f : ByteArray → Option ByteArray} {op mo : Int} {k v tt : ByteArray} {er val S : Value} (h : SwX VD W w g qa bm qt qw its n m f op k v tt mo er val S) (t : Below w.heap.size w w1) : SwX VD W w1 g qa bm qt qw its n m f op k v tt mo er val S :=
  ⟨h.dx.below L t, h.ms.touch (Touch.ofBelow (F := []) t) (by simp), h.ask.below t, h.told.below t⟩
set_option maxRecDepth 20000 in
set_option maxHeartbeats 8000000 in
theorem holdSees_any (L : HoldLaws VD) (A0 : Option Addr) (c0 n : Nat) (zs : List AK) (W : World) (hA : ∃ b off, ∀ i (h : i < zs.length), A0 = some ⟨b, off, none⟩ ∧ b < W.heap.size ∧ W.cell? ⟨b, off + i * 5, none⟩ = some (.int .i64 (zs[i]).op) ∧ W.cell? ⟨b, off + i * 5 + 1, none⟩ = some (.string (zs[i]).key) ∧ W.cell? ⟨b, off + i * 5 + 2, none⟩ = some (.string (zs[i]).val) ∧ W.cell? ⟨b, off + i * 5 + 3, none⟩ = some (.string (zs[i]).tt) ∧ W.cell? ⟨b, off + i * 5 + 4, none⟩ = some (.int .i64 (zs[i]).most)) (hn : zs.length = n) (hfit : ∀ x ∈ zs, x.Fit) :
    Calls Tryz.prog 8 #[.slice A0 n c0] W fun e w' => e = .returned (.bool true) ∧ Below W.heap.size W w' := by
  have CA := Lib.hid (holdAlive_any L)
  by_cases q0 : 60 < n
  · have d0 : decide (60 < (n : Int)) = true := decide_eq_true (by omega)
    go_enter Tryz.func8, Tryz.ntmps8
    go_wp2_with (go_at_call 11; (with_reducible refine (CA.out _).mono ?_); rintro e w1 ⟨rfl, h1⟩)
    go_ret
    exact ⟨rfl, h1⟩
  have d0 : decide (60 < (n : Int)) = false := decide_eq_false (by omega)
  have HAI : Hid (∃ b off, ∀ w, Below W.heap.size W w → ∀ i (h : i < zs.length), A0 = some ⟨b, off, none⟩ ∧ w.cell? ⟨b, off + i * 5, none⟩ = some (.int .i64 (zs[i]).op) ∧ w.cell? ⟨b, off + i * 5 + 1, none⟩ = some (.string (zs[i]).key) ∧ w.cell? ⟨b, off + i * 5 + 2, none⟩ = some (.string (zs[i]).val) ∧ w.cell? ⟨b, off + i * 5 + 3, none⟩ = some (.string (zs[i]).tt) ∧ w.cell? ⟨b, off + i * 5 + 4, none⟩ = some (.int .i64 (zs[i]).most)) := by
    obtain ⟨b, off, h⟩ := hA
    refine ⟨b, off, fun w hw i hi => ?_⟩
    obtain ⟨h1, h2, h3, h4, h5, h6, h7⟩ := h i hi
    exact ⟨h1, (hw.cell (p := ⟨b, off + i * 5, none⟩) h2).trans h3, (hw.cell (p := ⟨b, off + i * 5 + 1, none⟩) h2).trans h4, (hw.cell (p := ⟨b, off + i * 5 + 2, none⟩) h2).trans h5, (hw.cell (p := ⟨b, off + i * 5 + 3, none⟩) h2).trans h6, (hw.cell (p := ⟨b, off + i * 5 + 4, none⟩) h2).trans h7⟩
  have HF := Lib.hid hfit
  have HN := Lib.hid hn
  clear hA hfit hn
  have C0 : Hid (∀ w, Below W.heap.size W w → Calls Tryz.prog 12 #[.int .i64 1, .int .i64 20] w fun e w' => ∃ g, e = .returned (.pointer (some ⟨g, 0, none⟩)) ∧ DX VD W w' [] g (HO.new 1 20)) := fun w hw => by
    refine (DX.new (P := []) L 1 20 hw (by simp) ⟨by decide, by decide⟩ ⟨by decide, by decide⟩).mono ?_
    rintro e w' ⟨g, rfl, h, -⟩
    exact ⟨g, rfl, h⟩
  have C1 : Hid (∀ w g, DX VD W w [] g (HO.new 1 20) → Calls Tryz.prog 13 #[.pointer (some ⟨g, 0, none⟩), .agg #[.int .u64 5, .int .u64 5], .int .i64 0] w fun e w' => e = .returned (.bool true) ∧ DX VD W w' [] g (Se [])) := fun w g h => by
    refine (h.own L 5 5 0 (by decide) (by decide) ⟨by decide, by decide⟩ (by decide)).mono ?_
    rintro e w' (⟨-, rfl, h1, -⟩ | ⟨h1, -⟩)
    · rw [Se_start] at h1
      exact ⟨rfl, h1⟩
    · exact absurd (HO.may_new (by decide)) h1
  have hmm := @run_makeMap Tryz.prog
  go_enter Tryz.func8, Tryz.ntmps8
  go_wp2_with (first
    | (go_at_call 11; (with_reducible refine (CA.out _).mono ?_); rintro e w1 ⟨rfl, h1⟩; have H1 := Lib.hid h1; clear h1)
    | (go_at_call 12; (with_reducible refine (C0.out _ H1.out).mono ?_); rintro e w2 ⟨g, rfl, x2⟩; have X2 := Lib.hid x2; clear x2)
    | (go_at_call 13; (with_reducible refine (C1.out _ _ X2.out).mono ?_); rintro e w3 ⟨rfl, x3⟩; have X3 := Lib.hid x3; clear x3))
  have S0 : Hid (SeX VD W (w3.alloc (.map #[] 0)) g w3.heap.size [] 0 0 (fun _ => none)) :=
    ⟨(X3.out.more L ((Below.refl _ _).alloc (Nat.le_refl _) (.map #[] 0)) (Q := [w3.heap.size]) (fun q hq => by simp at hq; subst hq; simp)).less (by simp), MS.made w3, Like.nil, X3.out.base.size⟩
  obtain ⟨bm, hbm⟩ : ∃ bm, w3.heap.size = bm := ⟨_, rfl⟩
  rw [hbm] at S0 ⊢
  clear CA C0 C1 hbm X3 X2 H1
  go_loopg [6, 7, 8, 9, 10, 31] (n + 1) (fun gh s6 s7 s8 s9 s10 s31 wx => ∃ (i : Nat) (its : List Item) (mn m : Nat) (f : ByteArray → Option ByteArray), i + gh = n + 1 ∧ i ≤ n ∧ mn ≤ i ∧ s31 = .int .i64 (i : Nat) ∧ Hid (SeX VD W wx g bm its mn m f))
  case atStart => exact ⟨0, [], 0, 0, _, by omega, by omega, Nat.le_refl _, rfl, S0⟩
  case round =>
    clear S0
    obtain ⟨i, its, mn, m, f, hig, hi, hmn, rfl, HX⟩ := hrel
    by_cases hlt : i < n
    · have i1 : (i : Int) < (n : Int) := by omega
      have zi : IntKind.i64.wrap ((i : Int) + 1) = (i : Int) + 1 := by rw [IntKind.wrap_i64]; omega
      obtain ⟨b, o, ha⟩ := HAI.out
      have hil : i < zs.length := by rw [HN.out]; exact hlt
      obtain ⟨rfl, e0, e1, e2, e3, e4⟩ := ha _ HX.out.dx.base i hil
      have hx := HF.out _ (List.getElem_mem hil)
      generalize zs[i] = a at e0 e1 e2 e3 e4 hx
      obtain ⟨op, k, v, tt, mo⟩ := a
      dsimp only at e0 e1 e2 e3 e4
      clear ha hil
      have HX1 := Lib.hid (HX.out.below L ((Below.refl _ _).alloc (Nat.le_refl _) (.cells #[.int .i64 op, .string k, .string v, .string tt, .int .i64 mo] 37)))
      by_cases r0 : k.size < 1
      · have f0 : decide ((k.size : Int) < 1) = true := decide_eq_true (by omega)
        go_wp2_with fail
        go_ret
        exact ⟨rfl, HX1.out.dx.base⟩
      have f0 : decide ((k.size : Int) < 1) = false := decide_eq_false (by omega)
      by_cases r1 : 16 < k.size
      · have f1 : decide (16 < (k.size : Int)) = true := decide_eq_true (by omega)
        go_wp2_with fail
        go_ret
        exact ⟨rfl, HX1.out.dx.base⟩
      have f1 : decide (16 < (k.size : Int)) = false := decide_eq_false (by omega)
      by_cases r2 : 16 < v.size
      · have f2 : decide (16 < (v.size : Int)) = true := decide_eq_true (by omega)
        go_wp2_with fail
        go_ret
        exact ⟨rfl, HX1.out.dx.base⟩
      have f2 : decide (16 < (v.size : Int)) = false := decide_eq_false (by omega)
      by_cases r3 : op < 1
      · have f3 : decide (op < 1) = true := decide_eq_true (by omega)
        go_wp2_with fail
        go_ret
        exact ⟨rfl, HX1.out.dx.base⟩
      have f3 : decide (op < 1) = false := decide_eq_false (by omega)
      by_cases r4 : 3 < op
      · have f4 : decide (3 < op) = true := decide_eq_true (by omega)
        go_wp2_with fail
        go_ret
        exact ⟨rfl, HX1.out.dx.base⟩
      have f4 : decide (3 < op) = false := decide_eq_false (by omega)
      have h3 : k.size ≠ 0 := by omega
      have h4 : k.size ≤ 16 := by omega
      have h5 : v.size ≤ 16 := by omega
      have hkm : k.size ≤ maxLen := hx.key
      have hvm : v.size ≤ maxLen := hx.val
      have HFIT := Lib.hid hx
      have hbl := HX.out.ms.lt
      have hwb := HX.out.bm
      have HXP : Hid (DX VD W (wr.alloc (.cells #[.int .i64 op, .string k, .string v, .string tt, .int .i64 mo] 37)) [wr.heap.size, bm] g (Se its)) := HX.out.dx.more L ((Below.refl _ _).alloc (Nat.le_refl _) _) (Q := [wr.heap.size]) (fun q hq => by simp at hq; subst hq; simp)
      clear hx HX
      go_upto_region 12 with fail
      obtain ⟨wa, hwa⟩ : ∃ w, wr.alloc (.cells #[.int .i64 op, .string k, .string v, .string tt, .int .i64 mo] 37) = w := ⟨_, rfl⟩
      have BA : Hid (Below wr.heap.size wr wa) := by rw [← hwa]; exact (Below.refl _ _).alloc (Nat.le_refl _) _
      have CA5 : Hid (Five wa wr.heap.size op k v tt mo) := by
        rw [← hwa]
        obtain ⟨u0, u1, u2, u3, u4⟩ := five_new wr (.int .i64 op) (.string k) (.string v) (.string tt) (.int .i64 mo) 37
        exact ⟨u0, u1, u2, u3, u4⟩
      have hlz : wr.heap.size < wa.heap.size := by rw [← hwa]; simp
      rw [hwa] at HX1 HXP ⊢
      obtain ⟨qa, hqa⟩ : ∃ q, wr.heap.size = q := ⟨_, rfl⟩
      have hqb : Hid (bm ≠ qa) := by show bm ≠ qa; omega
      rw [hqa] at CA5 hlz HXP ⊢
      clear hwa hqa BA e0 e1 e2 e3 e4
      obtain ⟨c0', c1', c2', c3', c4'⟩ := CA5.out
      have hlook := HX1.out.ms.look k hkm
      go_upto_region 13 with fail
      obtain ⟨er, val, its1, f1, m1, d, hway⟩ := way_some its f m k v (op := op) (by omega) (by omega)
      have HWAY := Lib.hid hway
      have CDO : Hid (Calls Tryz.prog 14 #[.pointer (some ⟨g, 0, none⟩), .agg #[.int .i64 op, .string k, .string v, .string tt, .int .i64 mo]] wa fun e w' => ∃ A c, e = .returned (.agg #[.int .i64 er, .string val, .slice A 0 c, .bool false, .string ⟨#[]⟩, .int .i64 0]) ∧ DX VD W w' [qa, bm] g (Se its1) ∧ Kept [qa, bm] wa w') := by
        refine (HXP.out.do_ L ⟨op, k, v, tt, mo⟩ HFIT.out (by show 1 ≤ 1000; decide) (by show 0 ≤ 1000; decide)).mono ?_
        rintro e w' ⟨t, s1, S, hd, rfl, ho, hx, hk⟩
        obtain ⟨rfl, rfl⟩ := HWAY.out.did HX1.out.lk h3 h4 h5 hd
        obtain ⟨A, b, rfl⟩ := own_slice ho
        exact ⟨A, b, rfl, hx.less (fun q hq => List.mem_append_right _ hq), hk⟩
      have CST : Hid (∀ w A B c d, Calls Tryz.prog 26 #[.agg #[.int .i64 er, .string val, .slice A 0 c, .bool false, .string ⟨#[]⟩, .int .i64 0], .agg #[.int .i64 er, .string val, .slice B 0 d, .bool false, .string ⟨#[]⟩, .int .i64 0]] w fun e w' => e = .returned (.bool true) ∧ Below w.heap.size w w') := fun w A B c d => told0_any er 0 val ⟨#[]⟩ false A B c d w
      obtain ⟨bs, hbs⟩ : ∃ bs, (f k).isSome = bs := ⟨_, rfl⟩
      obtain ⟨vs, hvs⟩ : ∃ vs, (f k).getD ⟨#[]⟩ = vs := ⟨_, rfl⟩
      rw [hbs, hvs]
      have HBS := Lib.hid hbs
      have HVS := Lib.hid hvs
      clear hbs hvs hway hlook
      go_upto_block 2 with (go_at_call 14; (with_reducible refine (CDO.out).mono ?_); rintro e w5 ⟨A5, c5, rfl, x5, k5⟩; have X5 := Lib.hid x5; have K5 := Lib.hid k5; clear x5 k5)
      obtain ⟨wb, hwb'⟩ : ∃ w, w5.alloc (.cells #[.int .i64 er, .string val, .slice A5 0 c5, .bool false, .string ⟨#[]⟩, .int .i64 0] 34) = w := ⟨_, rfl⟩
      obtain ⟨wq, hwq⟩ : ∃ w, wb.alloc (.cells #[.int .i64 0, .string ⟨#[]⟩, .slice none 0 0, .bool false, .string ⟨#[]⟩, .int .i64 0] 34) = w := ⟨_, rfl⟩
      have BB : Hid (Below w5.heap.size w5 wb) := by rw [← hwb']; exact (Below.refl _ _).alloc (Nat.le_refl _) _
      have BC : Hid (Below wb.heap.size wb wq) := by rw [← hwq]; exact (Below.refl _ _).alloc (Nat.le_refl _) _
      have hzz : w5.heap.size + 1 = wb.heap.size := by rw [← hwb']; simp
      have hzw : wb.heap.size + 1 = wq.heap.size := by rw [← hwq]; simp
      have TC : Hid (Six wq w5.heap.size (.int .i64 er) (.string val) (.slice A5 0 c5) (.bool false) (.string ⟨#[]⟩) (.int .i64 0)) := by
        have z : Six wb w5.heap.size (.int .i64 er) (.string val) (.slice A5 0 c5) (.bool false) (.string ⟨#[]⟩) (.int .i64 0) := by rw [← hwb']; exact Six.new _ _ _ _ _ _ _ _
        exact z.below BC.out
      have ZC : Hid (Six wq wb.heap.size (.int .i64 0) (.string ⟨#[]⟩) (.slice none 0 0) (.bool false) (.string ⟨#[]⟩) (.int .i64 0)) := by rw [← hwq]; exact Six.new _ _ _ _ _ _ _ _
      have FC : Hid (wq.frozen? ⟨wb.heap.size, 0, none⟩ = false ∧ wq.frozen? ⟨wb.heap.size, 1, none⟩ = false) := by rw [← hwq]; exact six_froz _ _ _ _ _ _ _ _
      have hq5 : qa < w5.heap.size := Nat.lt_of_lt_of_le hlz K5.out.size
      have hb5 : bm < w5.heap.size := Nat.lt_of_lt_of_le HX1.out.ms.lt K5.out.size
      have SW : Hid (SwX VD W wq g qa bm w5.heap.size wb.heap.size its1 mn m f op k v tt mo (.int .i64 er) (.string val) (.slice A5 0 c5)) := by
        have x6 := X5.out.more L BB.out (Q := [w5.heap.size]) (fun q hq => by simp at hq; subst hq; omega)
        have x7 := x6.more L BC.out (Q := [wb.heap.size]) (fun q hq => by simp at hq; subst hq; omega)
        obtain ⟨G, tG, hG⟩ := K5.out
        exact ⟨x7.less (by simp), ((HX1.out.ms.touch tG (hG bm (by simp))).touch (Touch.ofBelow (F := []) BB.out) (by simp)).touch (Touch.ofBelow (F := []) BC.out) (by simp), ((CA5.out.kept K5.out (by simp)).below BB.out).below BC.out, TC.out⟩
      have hN : Hid (wb.heap.size ≠ qa ∧ wb.heap.size ≠ w5.heap.size ∧ wb.heap.size ≠ bm ∧ w5.heap.size ≠ bm ∧ qa ≠ bm ∧ w5.heap.size ≠ qa ∧ W.heap.size ≤ wb.heap.size ∧ W.heap.size ≤ bm) := by
        have := hqb.out
        have := X5.out.base.size
        show wb.heap.size ≠ qa ∧ wb.heap.size ≠ w5.heap.size ∧ wb.heap.size ≠ bm ∧ w5.heap.size ≠ bm ∧ qa ≠ bm ∧ w5.heap.size ≠ qa ∧ W.heap.size ≤ wb.heap.size ∧ W.heap.size ≤ bm
        omega
      rw [hwb', hwq]
      try rw [hzz]
      obtain ⟨qt, hqt⟩ : ∃ q, w5.heap.size = q := ⟨_, rfl⟩
      obtain ⟨qw, hqw⟩ : ∃ q, wb.heap.size = q := ⟨_, rfl⟩
      rw [hqt, hqw] at SW hN
      rw [hqw] at ZC FC
      rw [hqt, hqw]
      clear hwb' hwq BB BC hzz hzw hqt hqw X5 K5 hq5 hb5 TC c0' c1' c2' c3' c4' CDO CA5
      have HLK := Lib.hid (HWAY.out.like HX1.out.lk)
      have HDF := Lib.hid HWAY.out.few
      clear HX1 HXP
      go_cut [10] (fun s10 wx => s10 = .pointer (some ⟨qw, 0, none⟩) ∧ Hid (SwX VD W wx g qa bm qt qw its1 (mn + d) m1 f1 op k v tt mo (.int .i64 er) (.string val) (.slice A5 0 c5)) ∧ Hid (Six wx qw (.int .i64 er) (.string val) (.slice none 0 0) (.bool false) (.string ⟨#[]⟩) (.int .i64 0)))
      case first =>
        obtain ⟨y0, y1, y2, y3, y4⟩ := SW.out.ask
        obtain ⟨z0, z1, z2, z3, z4, z5⟩ := ZC.out
        obtain ⟨z6, z7⟩ := FC.out
        have hlen := SW.out.ms.len
        have hmn60 : mn < 1000000 := by omega
        have hway := HWAY.out
        clear HWAY
        cases hway with
        | full a b =>
          obtain rfl : bs = false := by rw [← HBS.out, a]; rfl
          have hm20 : (20 : Int) ≤ (m : Int) := by omega
          clear a
          go_wp2_with fail
          go_meet
          exact ⟨rfl, SW.out.wrote L ((Touch.refl [qw] wq).set (p := ⟨qw, 0, none⟩) (.inl (by simp)) _) hN.out.1 hN.out.2.1 hN.out.2.2.1 hN.out.2.2.2.2.2.2.1, ZC.out.set0 _⟩
        | puts a =>
          cases bs with
          | true =>
            clear a
            go_wp2_with (refine wpList_mapUpdate_ms _ rfl (.tmp 93) (.tmp 95) (.tmp 97) rfl bm mn m f rfl SW.out.ms hmn60 k v rfl hkm rfl hvm ?_; intro w6 hms ht; have HM6 := Lib.hid hms; have HT6 := Lib.hid ht; clear hms ht)
            go_meet
            exact ⟨rfl, SW.out.map L HT6.out HM6.out hN.out.2.2.2.2.1 hN.out.2.2.2.1 hN.out.2.2.2.2.2.2.2, ZC.out.touch HT6.out (by simp; exact hN.out.2.2.1)⟩
          | false =>
            have hm20 : ¬ (20 : Int) ≤ (m : Int) := by
              rcases a with a | a
              · exfalso
                have h9 := HBS.out
                cases c : f k with
                | none => exact a c
                | some u => rw [c] at h9; cases h9
              · omega
            clear a
            go_wp2_with (refine wpList_mapUpdate_ms _ rfl (.tmp 93) (.tmp 95) (.tmp 97) rfl bm mn m f rfl SW.out.ms hmn60 k v rfl hkm rfl hvm ?_; intro w6 hms ht; have HM6 := Lib.hid hms; have HT6 := Lib.hid ht; clear hms ht)
            go_meet
            exact ⟨rfl, SW.out.map L HT6.out HM6.out hN.out.2.2.2.2.1 hN.out.2.2.2.1 hN.out.2.2.2.2.2.2.2, ZC.out.touch HT6.out (by simp; exact hN.out.2.2.1)⟩
        | none_ op a b =>
          obtain rfl : bs = false := by rw [← HBS.out, b]; rfl
          have o2 : (op == 2) = false := by rw [beq_eq_false_iff_ne]; omega
          clear a b
          go_wp2_with fail
          go_meet
          exact ⟨rfl, SW.out.wrote L ((Touch.refl [qw] wq).set (p := ⟨qw, 0, none⟩) (.inl (by simp)) _) hN.out.1 hN.out.2.1 hN.out.2.2.1 hN.out.2.2.2.2.2.2.1, ZC.out.set0 _⟩
        | got u a =>
          obtain rfl : bs = true := by rw [← HBS.out, a]; rfl
          obtain rfl : vs = val := by rw [← HVS.out, a]; rfl
          clear a
          go_wp2_with fail
          go_meet
          exact ⟨rfl, SW.out.wrote L ((Touch.refl [qw] wq).set (p := ⟨qw, 1, none⟩) (.inl (by simp)) _) hN.out.1 hN.out.2.1 hN.out.2.2.1 hN.out.2.2.2.2.2.2.1, ZC.out.set1 _⟩
        | dels u a =>
          obtain rfl : bs = true := by rw [← HBS.out, a]; rfl
          clear a
          go_wp2_with (at_delete; refine wpList_delete_ms _ rfl (.tmp 72) (.tmp 74) rfl bm mn m f rfl SW.out.ms k rfl hkm ?_; intro w6 hms ht; have HM6 := Lib.hid hms; have HT6 := Lib.hid ht; clear hms ht)
          go_meet
          exact ⟨rfl, SW.out.map L HT6.out HM6.out hN.out.2.2.2.2.1 hN.out.2.2.2.1 hN.out.2.2.2.2.2.2.2, ZC.out.touch HT6.out (by simp; exact hN.out.2.2.1)⟩
      case rest =>
        clear SW ZC FC
        obtain ⟨rfl, SW, ZC⟩ := hcut
        obtain ⟨wd, rfl⟩ : ∃ wd : World, wd = wc := ⟨_, rfl⟩
        obtain ⟨t0, t1, t2, t3, t4, t5⟩ := SW.out.told
        obtain ⟨z0, z1, z2, z3, z4, z5⟩ := ZC.out
        go_wp2_with (first
          | (go_at_call 26; (with_reducible refine (CST.out _ _ _ _ _).mono ?_); rintro e w6 ⟨rfl, h6⟩; have SW6 := Lib.hid (SW.out.below L h6); clear h6)
          | (go_at_call 18; (with_reducible refine (SW6.out.dx.len L).mono ?_); rintro e w7 ⟨rfl, h7⟩; have SW7 := Lib.hid (SW6.out.below L h7); have hlen := SW7.out.ms.len; rw [show (Se its1).its.length = m1 from HLK.out.len]; clear h7))
        go_roundg (gk - 1)
        case measure => omega
        case rel => exact ⟨i + 1, its1, mn + d, m1, f1, by omega, by omega, by have := HDF.out; omega, by go_num, ⟨SW7.out.dx.less (by simp), SW7.out.ms, HLK.out, hN.out.2.2.2.2.2.2.2⟩⟩
    · have i1 : ¬ (i : Int) < (n : Int) := by omega
      go_wp2_with fail
      go_ret
      exact ⟨rfl, HX.out.dx.base⟩
end
end Go.Proofs.YthgndgoljchnfaaGreat
