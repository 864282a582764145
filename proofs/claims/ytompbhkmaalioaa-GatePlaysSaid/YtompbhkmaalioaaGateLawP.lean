/-
  Every arcs that are shut, opened, pointed elsewhere, as time goes by (GatePlays).
-/
import Derived.Test.YtompbhkmaalioaaGatePlay
import Derived.BigQuiet
import Derived.RegionTactic
import Derived.Deep.CutBlock
namespace Go.Proofs.Ytompbhkmaalioaa
open Go.RowKit

/-- the document's tells the same -/
structure Same (s : GS) (f t : Nat) : Prop where
  a : s.shut = true → s.f = f ∧ s.t = t
  f : f < 18446744073709551616
  t : t < 18446744073709551616
  l : ∀ p ∈ s.l, p.Fit
theorem agedL_fit {l : List GP} (h : ∀ p ∈ l, p.Fit) : ∀ p ∈ agedL l, p.Fit := fun p hp => by
  obtain ⟨h1, h2⟩ := List.mem_filter.1 hp
  obtain ⟨q, hq, rfl⟩ := List.mem_map.1 h1
  exact ⟨(h q hq).1, (h q hq).2.1, of_decide_eq_true h2⟩
theorem wrap_pred (t : Nat) : ∃ z : Nat, IntKind.u64.wrap ((t : Int) - 1) = (z : Nat) ∧ z < 18446744073709551616 := by
  have h := IntKind.wrap_u64 ((t : Int) - 1)
  obtain ⟨z, hz⟩ := Int.eq_ofNat_of_zero_le (show 0 ≤ IntKind.u64.wrap ((t : Int) - 1) by rw [h]; omega)
  exact ⟨z, hz, by rw [h] at hz; omega⟩
theorem four_lt {a b c d M : Nat} {ps : List Nat} (ha : a < M) (hb : b < M) (hc : c < M) (hd : d < M) (h : [a, b, c, d] = ps) : ∀ y ∈ ps, y < M := fun y hy => by
  subst h
  simp at hy
  rcases hy with rfl | rfl | rfl | rfl
  · exact ha
  · exact hb
  · exact hc
  · exact hd
section
variable {VG : World → Nat → GS → List Nat → Prop} {W : World} {gb rb fa ta f1 t1 kk : Nat} {b1 : Bool} {l1 : List GP} {V1 : Value}
theorem gp_where (L : GateLaws VG) (hl : l1.length ≤ 1000) : Hid (∀ w B y, y < 18446744073709551616 → GX VG W w B gb ⟨b1, fa, ta, l1, kk⟩ → Calls Try.prog 16 #[.pointer (some ⟨gb, 0, none⟩), .int .u64 (y : Nat)] w fun e w' => e = .returned (whereV (overL l1 y)) ∧ Below w.heap.size w w') := Lib.hid fun _ _ y hy h => h.where_ L y hy (Nat.le_succ_of_le hl)
theorem gp_rwhere (hl : l1.length ≤ 1000) (hf : ∀ p ∈ l1, p.Fit) : Hid (∀ w y, y < 18446744073709551616 → RG w rb b1 f1 t1 l1 V1 → Calls Try.prog 17 #[.pointer (some ⟨rb, 0, none⟩), .int .u64 (y : Nat)] w fun e w' => e = .returned (whereV (overL l1 y)) ∧ Below w.heap.size w w') := Lib.hid fun _ y hy h => refWhere_any h (Nat.le_trans hl (by omega)) hf y hy
theorem gp_frozen (L : GateLaws VG) (ht : b1 = true → fa = f1 ∧ ta = t1) : Hid (∀ w B y, y < 18446744073709551616 → GX VG W w B gb ⟨b1, fa, ta, l1, kk⟩ → Calls Try.prog 18 #[.pointer (some ⟨gb, 0, none⟩), .int .u64 (y : Nat)] w fun e w' => e = .returned (.bool (b1 && inB f1 t1 y)) ∧ Below w.heap.size w w') := Lib.hid fun _ _ y hy h => by
  have z := h.frozen L y hy
  have e : GS.frozen ⟨b1, fa, ta, l1, kk⟩ y = (b1 && inB f1 t1 y) := by
    show (b1 && inB fa ta y) = _
    cases hb : b1 with
    | false => rw [Bool.false_and, Bool.false_and]
    | true => obtain ⟨e1, e2⟩ := ht hb; rw [e1, e2]
  rwa [e] at z
theorem gp_rfrozen (h1 : f1 < 18446744073709551616) (h2 : t1 < 18446744073709551616) : Hid (∀ w y, y < 18446744073709551616 → RG w rb b1 f1 t1 l1 V1 → Calls Try.prog 19 #[.pointer (some ⟨rb, 0, none⟩), .int .u64 (y : Nat)] w fun e w' => e = .returned (.bool (b1 && inB f1 t1 y)) ∧ Below w.heap.size w w') := Lib.hid fun _ y hy h => refFrozen_any h y h1 h2 hy
end
theorem gp_drewN (w : World) (n : Nat) : Below w.heap.size w (w.drewN n) := ⟨rfl, rfl, rfl, Nat.le_refl _, fun _ _ => rfl⟩
/-- what is done, in its box -/
def OB (w : World) (q : Nat) (k d m : Int) (f t : Nat) : Prop := w.heap[q]? = some (.cells #[.int .i64 k, .int .i64 d, .int .i64 m, .int .u64 (f : Nat), .int .u64 (t : Nat)] 37)
theorem OB.kept {w w' : World} {q : Nat} {B : List Nat} {k d m : Int} {f t : Nat} (h : OB w q k d m f t) (hk : Kept B w w') (hq : q ∈ B) : OB w' q k d m f t := (hk.block hq (rg_lt h)).trans h
theorem OB.below {w w' : World} {q : Nat} {k d m : Int} {f t : Nat} (h : OB w q k d m f t) (hb : Below w.heap.size w w') : OB w' q k d m f t := (hb.block q (rg_lt h)).trans h
set_option maxRecDepth 20000 in
set_option maxHeartbeats 16000000 in
theorem gatePlays_any {VG : World → Nat → GS → List Nat → Prop} (L : GateLaws VG) (NL : GateNil) (A0 : Option Addr) (c0 n : Nat) (os : List GOp) (x : Nat) (W : World) (hA : GOpsAt W A0 os) (hn : os.length = n) (hx : x < 18446744073709551616) :
    Calls Try.prog 3 #[.slice A0 n c0, .int .u64 (x : Nat)] W fun e w' => e = .returned (.bool true) ∧ Below W.heap.size W w' := by
  have CA := Lib.hid (gateAlive_any L)
  by_cases q0 : 80 < n
  · have d0 : decide (80 < (n : Int)) = true := decide_eq_true (by omega)
    go_enter Try.func3, Try.ntmps3
    go_wp2_with (go_at_call 7; (with_reducible refine (CA.out _).mono ?_); rintro e w1 ⟨rfl, h1⟩)
    go_ret
    exact ⟨rfl, h1⟩
  have d0 : decide (80 < (n : Int)) = false := decide_eq_false (by omega)
  have hso : (Try.prog.info? 37).map (·.size) = some 5 := by kernel_rfl
  have HA := Lib.hid hA
  have HN := Lib.hid hn
  have HX := Lib.hid hx
  have HL := Lib.hid L
  have HNL := Lib.hid NL
  clear hA hn hx L NL
  go_enter Try.func3, Try.ntmps3
  go_upto_region 3 with (go_at_call 7; (with_reducible refine (CA.out _).mono ?_); rintro e w3 ⟨rfl, h3⟩; have B3 := Lib.hid h3; clear h3)
  go_wp2_with fail
  have K0 : Hid (PX VG W ((w3.alloc (.cells GZ 31)).alloc (.cells #[.bool false, .int .u64 0, .int .u64 0, .slice none 0 0] 35)) [] w3.heap.size (w3.heap.size + 1) G0 false 0 0 [] (.slice none 0 0)) := by
    have z := (GX.zero HL.out B3.out (P := []) (by simp)).more HL.out (Q := [w3.heap.size + 1]) ((Below.refl _ _).alloc (Nat.le_refl _) (.cells #[.bool false, .int .u64 0, .int .u64 0, .slice none 0 0] 35)) (fun q hq => by simp at hq; subst hq; simp)
    refine ⟨z.less (by simp [blkL, Value.ownBlock]), ⟨by have e := heap_alloc_new (w3.alloc (.cells GZ 31)) (.cells #[.bool false, .int .u64 0, .int .u64 0, .slice none 0 0] 35); simpa using e, World.ownsRow_nil _ _ _ _, by simp [Value.ownBlock]⟩, by have := B3.out.size; omega, by simp [Value.ownBlock], by simp⟩
  obtain ⟨w4, hw4⟩ : ∃ w, (w3.alloc (.cells GZ 31)).alloc (.cells #[.bool false, .int .u64 0, .int .u64 0, .slice none 0 0] 35) = w := ⟨_, rfl⟩
  obtain ⟨rb, hrb⟩ : ∃ rb, w3.heap.size + 1 = rb := ⟨_, rfl⟩
  obtain ⟨gb, hgb⟩ : ∃ gb, w3.heap.size = gb := ⟨_, rfl⟩
  rw [hw4, hrb, hgb] at K0
  rw [hw4, hrb, hgb]
  clear hw4 hgb hrb
  go_loopg [7, 8, 9, 10, 11, 13, 14, 15, 16, 17] (n + 1) (fun gh s7 s8 s9 s10 s11 s13 s14 s15 s16 s17 wx => ∃ (i : Nat) (s : GS) (f t : Nat) (V : Value), i + gh = n + 1 ∧ i ≤ n ∧ s7 = .int .i64 (i : Nat) ∧ s.l.length ≤ i ∧ s.k ≤ 60 * i ∧ Hid (Same s f t) ∧ Hid (PX VG W wx [] gb rb s s.shut f t s.l V))
  case atStart => exact ⟨0, G0, 0, 0, _, by omega, by omega, rfl, by simp, by simp, ⟨(fun z => (by cases z)), (by decide), (by decide), (fun p hp => (by cases hp))⟩, K0⟩
  case round =>
    obtain ⟨i, s, f, t, V, hig, hi, rfl, hsl, hsk, HS, HK⟩ := hrel
    by_cases hlt : i < n
    · have i1 : (i : Int) < (n : Int) := by omega
      have zi : IntKind.i64.wrap ((i : Int) + 1) = (i : Int) + 1 := by rw [IntKind.wrap_i64]; omega
      obtain ⟨q, qo, hq⟩ := HA.out.below HK.out.base
      have hio : i < os.length := by rw [HN.out]; exact hlt
      obtain ⟨rfl, -, hr, hfit⟩ := hq i _ (List.getElem?_eq_getElem hio)
      generalize os[i] = o at hr hfit
      obtain ⟨k, d, m, f0, t0⟩ := o
      have HR := Lib.hid hr
      have HFIT := Lib.hid hfit
      have hsz : (Try.prog.info? 37).map (·.size) = some [(.int .i64 k : Value), .int .i64 d, .int .i64 m, .int .u64 (f0 : Nat), .int .u64 (t0 : Nat)].length := hso
      clear hr hq hfit
      go_upto_block 2 with (with_reducible (show wpList _ _ _ (⟨some 44, Op.load _ _, _, _, _, _⟩ :: _) _ _); go_must (refine wpList_load_mid rfl 37 (.tmp 43) rfl q (qo + i * 5) rfl [.int .i64 k, .int .i64 d, .int .i64 m, .int .u64 (f0 : Nat), .int .u64 (t0 : Nat)] _ HR.out Try.underlying37 rfl hsz ?_))
      have K1 := Lib.hid (HK.out.more HL.out (q := wr.heap.size) ((Below.refl _ _).alloc (Nat.le_refl _) (.cells #[.int .i64 k, .int .i64 d, .int .i64 m, .int .u64 (f0 : Nat), .int .u64 (t0 : Nat)] 37)) ⟨Nat.le_refl _, by simp⟩)
      have O1 : Hid (OB (wr.alloc (.cells #[.int .i64 k, .int .i64 d, .int .i64 m, .int .u64 (f0 : Nat), .int .u64 (t0 : Nat)] 37)) wr.heap.size k d m f0 t0) := heap_alloc_new _ _
      obtain ⟨w5, hw5⟩ : ∃ w, wr.alloc (.cells #[.int .i64 k, .int .i64 d, .int .i64 m, .int .u64 (f0 : Nat), .int .u64 (t0 : Nat)] 37) = w := ⟨_, rfl⟩
      obtain ⟨qb, hqb⟩ : ∃ q, wr.heap.size = q := ⟨_, rfl⟩
      rw [hw5, hqb] at K1 O1
      rw [hw5, hqb]
      clear hw5 hqb HK HR
      go_cut [9] (fun s9 wx => ∃ (s' : GS) (f' t' : Nat) (V' : Value), s'.l.length ≤ i + 1 ∧ s'.k ≤ 60 * (i + 1) ∧ Hid (Same s' f' t') ∧ Hid (PX VG W wx [qb] gb rb s' s'.shut f' t' s'.l V') ∧ Hid (OB wx qb k d m f0 t0))
      case first =>
        have HCLS : Hid (∀ w', Kept [qb] w5 w' → OB w' qb k d m f0 t0) := fun w' hk => O1.out.kept hk (by simp)
        obtain ⟨o1, o2, o3, o4⟩ : w5.cell? ⟨qb, 1, none⟩ = some (.int .i64 d) ∧ w5.cell? ⟨qb, 2, none⟩ = some (.int .i64 m) ∧ w5.cell? ⟨qb, 3, none⟩ = some (.int .u64 (f0 : Nat)) ∧ w5.cell? ⟨qb, 4, none⟩ = some (.int .u64 (t0 : Nat)) := ⟨rg_cell O1.out rfl, rg_cell O1.out rfl, rg_cell O1.out rfl, rg_cell O1.out rfl⟩
        have r0 : w5.cell? ⟨rb, 0, none⟩ = some (.bool s.shut) := rg_cell K1.out.rg.hg rfl
        have hf0 := HFIT.out.f
        have ht0 := HFIT.out.t
        have hd0 := HFIT.out.d
        by_cases k1 : k = 1
        · subst k1
          cases hsh : s.shut with
          | true =>
            have CF : Hid (Calls Try.prog 8 #[.pointer (some ⟨gb, 0, none⟩), .agg #[.int .u64 (f0 : Nat), .int .u64 (t0 : Nat)]] w5.drew (GXPost VG W w5.drew (rb :: (blkL V ++ [qb])) gb (.bool false) s)) := by
              have z := (K1.out.below HL.out (Below.refl _ _).drew).gx.freeze HL.out f0 t0 hf0 ht0
              unfold GS.freeze at z
              rwa [hsh, if_pos rfl] at z
            rw [hsh] at r0
            have KD := Lib.hid (K1.out.below HL.out (Below.refl _ _).drew)
            have SD : Hid (w5.drew.cell? ⟨rb, 0, none⟩ = some (.bool true) ∧ w5.drew.cell? ⟨qb, 3, none⟩ = some (.int .u64 (f0 : Nat)) ∧ w5.drew.cell? ⟨qb, 4, none⟩ = some (.int .u64 (t0 : Nat))) := ⟨r0, o3, o4⟩
            clear r0 o1 o2 o3 o4
            go_upto_region 10 with fail
            go_region_held3 (fun w' => w'.cell? ⟨rb, 0, none⟩ = some (.bool true) ∧ w'.cell? ⟨qb, 3, none⟩ = some (.int .u64 (f0 : Nat)) ∧ w'.cell? ⟨qb, 4, none⟩ = some (.int .u64 (t0 : Nat))) (first | exact S6.out | exact SD.out)
              (first | (go_at_call 8; (with_reducible refine (CF.out).mono ?_); rintro e w6 ⟨rfl, h6, j6⟩; obtain ⟨h6, j6⟩ := KD.out.gate h6 j6; have K6 := Lib.hid h6; have O6 := Lib.hid ((O1.out.below (Below.refl _ _).drew).kept j6 (by simp)); have S6 : Hid (w6.cell? ⟨rb, 0, none⟩ = some (.bool true) ∧ w6.cell? ⟨qb, 3, none⟩ = some (.int .u64 (f0 : Nat)) ∧ w6.cell? ⟨qb, 4, none⟩ = some (.int .u64 (t0 : Nat))) := ⟨(rg_cell K6.out.rg.hg rfl).trans (by rw [hsh]; rfl), rg_cell O6.out rfl, rg_cell O6.out rfl⟩; clear h6 j6))
            obtain ⟨r0, -, -⟩ := S6.out
            go_wp2_with fail
            go_meet
            exact ⟨s, f, t, V, by omega, by omega, HS, K6, O6⟩
          | false =>
            have CF : Hid (Calls Try.prog 8 #[.pointer (some ⟨gb, 0, none⟩), .agg #[.int .u64 (f0 : Nat), .int .u64 (t0 : Nat)]] w5.drew (GXPost VG W w5.drew (rb :: (blkL V ++ [qb])) gb (.bool true) ⟨true, f0, t0, s.l, s.k⟩)) := by
              have z := (K1.out.below HL.out (Below.refl _ _).drew).gx.freeze HL.out f0 t0 hf0 ht0
              unfold GS.freeze at z
              rwa [hsh, if_neg (by decide)] at z
            rw [hsh] at r0
            have KD := Lib.hid (K1.out.below HL.out (Below.refl _ _).drew)
            have SD : Hid (w5.drew.cell? ⟨rb, 0, none⟩ = some (.bool false) ∧ w5.drew.cell? ⟨qb, 3, none⟩ = some (.int .u64 (f0 : Nat)) ∧ w5.drew.cell? ⟨qb, 4, none⟩ = some (.int .u64 (t0 : Nat))) := ⟨r0, o3, o4⟩
            clear r0 o1 o2 o3 o4
            go_upto_region 10 with fail
            go_region_held3 (fun w' => w'.cell? ⟨rb, 0, none⟩ = some (.bool false) ∧ w'.cell? ⟨qb, 3, none⟩ = some (.int .u64 (f0 : Nat)) ∧ w'.cell? ⟨qb, 4, none⟩ = some (.int .u64 (t0 : Nat))) (first | exact S6.out | exact SD.out)
              (first | (go_at_call 8; (with_reducible refine (CF.out).mono ?_); rintro e w6 ⟨rfl, h6, j6⟩; obtain ⟨h6, j6⟩ := KD.out.gate h6 j6; have K6 := Lib.hid h6; have O6 := Lib.hid ((O1.out.below (Below.refl _ _).drew).kept j6 (by simp)); have S6 : Hid (w6.cell? ⟨rb, 0, none⟩ = some (.bool false) ∧ w6.cell? ⟨qb, 3, none⟩ = some (.int .u64 (f0 : Nat)) ∧ w6.cell? ⟨qb, 4, none⟩ = some (.int .u64 (t0 : Nat))) := ⟨(rg_cell K6.out.rg.hg rfl).trans (by rw [hsh]; rfl), rg_cell O6.out rfl, rg_cell O6.out rfl⟩; clear h6 j6))
            obtain ⟨r0, o3, o4⟩ := S6.out
            have r1 : w6.cell? ⟨rb, 1, none⟩ = some (.int .u64 (f : Nat)) := rg_cell K6.out.rg.hg rfl
            have r2 : w6.cell? ⟨rb, 2, none⟩ = some (.int .u64 (t : Nat)) := rg_cell K6.out.rg.hg rfl
            have z0 : w6.frozen? ⟨rb, 0, none⟩ = false := Lib.frozen_of_heap K6.out.rg.hg 0
            have z1 : w6.frozen? ⟨rb, 1, none⟩ = false := Lib.frozen_of_heap K6.out.rg.hg 1
            have z2 : w6.frozen? ⟨rb, 2, none⟩ = false := Lib.frozen_of_heap K6.out.rg.hg 2
            have hqr : qb ≠ rb := (K6.out.2.2.2.2 qb (by simp)).1
            go_upto_region 13 with fail
            go_region
            all_goals
              go_wp2_with fail
              go_meet
              obtain ⟨h7, j7⟩ := K6.out.setShut HL.out true
              obtain ⟨h8, j8⟩ := h7.setArc HL.out f0 t0
              exact ⟨⟨true, f0, t0, s.l, s.k⟩, f0, t0, V, by show s.l.length ≤ _; omega, by show s.k ≤ _; omega, ⟨fun _ => ⟨rfl, rfl⟩, hf0, ht0, HS.out.l⟩, h8.below HL.out (Below.refl _ _).drew, (((O6.out.kept j7 (by simp)).kept j8 (by simp)).below (Below.refl _ _).drew)⟩
        by_cases k2 : k = 2
        · subst k2
          have CT : Hid (Calls Try.prog 9 #[.pointer (some ⟨gb, 0, none⟩)] w5.drew (GXPost VG W w5.drew (rb :: (blkL V ++ [qb])) gb (.bool s.shut) s.thaw)) := (K1.out.below HL.out (Below.refl _ _).drew).gx.thaw HL.out
          have KD := Lib.hid (K1.out.below HL.out (Below.refl _ _).drew)
          have SD : Hid (w5.drew.cell? ⟨rb, 0, none⟩ = some (.bool s.shut)) := r0
          have fz : Hid (∀ w', RG w' rb s.shut f t s.l V → w'.frozen? ⟨rb, 0, none⟩ = false) := fun w' h => Lib.frozen_of_heap h.hg 0
          clear r0 o1 o2 o3 o4
          go_upto_region 15 with fail
          go_region_held3 (fun w' => w'.cell? ⟨rb, 0, none⟩ = some (.bool s.shut)) (first | exact S6.out | exact SD.out)
            (first | (go_at_call 9; (with_reducible refine (CT.out).mono ?_); rintro e w6 ⟨rfl, h6, j6⟩; obtain ⟨h6, j6⟩ := KD.out.gate h6 j6; have K6 := Lib.hid h6; have O6 := Lib.hid ((O1.out.below (Below.refl _ _).drew).kept j6 (by simp)); have S6 : Hid (w6.cell? ⟨rb, 0, none⟩ = some (.bool s.shut)) := rg_cell K6.out.rg.hg rfl; clear h6 j6))
          have r0 := S6.out
          have ff := fz.out _ K6.out.rg
          obtain ⟨h7, j7⟩ := K6.out.setShut HL.out false
          have K7 := Lib.hid h7
          have O7 := Lib.hid (O6.out.kept j7 (by simp))
          clear h7 j7
          generalize s.shut = bs at *
          go_wp2_with fail
          go_meet
          exact ⟨s.thaw, f, t, V, by show s.l.length ≤ _; omega, by show s.k ≤ _; omega, ⟨(fun z => (by cases z)), HS.out.f, HS.out.t, HS.out.l⟩, K7, O7⟩
        have e1 : (k == 1) = false := beq_eq_false_iff_ne.2 k1
        have e2 : (k == 2) = false := beq_eq_false_iff_ne.2 k2
        by_cases k3 : k = 3
        · subst k3
          have CP : Hid (Calls Try.prog 10 #[.pointer (some ⟨gb, 0, none⟩), .agg #[.int .u64 (f0 : Nat), .int .u64 (t0 : Nat)], .int .i64 d] w5 (GXPost VG W w5 (rb :: (blkL V ++ [qb])) gb (.tuple #[]) (s.point f0 t0 d))) := K1.out.gx.point HL.out f0 t0 d hf0 ht0 hd0.1 hd0.2 (by omega)
          have CQ : Hid (∀ w, RG w rb s.shut f t s.l V → Calls Try.prog 11 #[.pointer (some ⟨rb, 0, none⟩), .agg #[.int .u64 (f0 : Nat), .int .u64 (t0 : Nat)], .int .i64 d] w fun e w' => ∃ V', e = .returned (.tuple #[]) ∧ RG w' rb s.shut f t (s.l ++ [⟨f0, t0, d, 0⟩]) V' ∧ Touch [rb] w w' ∧ ∀ q, V'.ownBlock = some q → w.heap.size ≤ q) := fun w h => refPoint_any h f0 t0 d (by omega)
          clear k1 k2 r0
          go_wp2_with (first
            | (go_at_call 10; (with_reducible refine (CP.out).mono ?_); rintro e w6 ⟨rfl, h6, j6⟩; obtain ⟨h6, j6⟩ := K1.out.gate h6 j6; have K6 := Lib.hid h6; have O6 := Lib.hid (O1.out.kept j6 (by simp)); obtain ⟨o1, o2, o3, o4⟩ : w6.cell? ⟨qb, 1, none⟩ = some (.int .i64 d) ∧ w6.cell? ⟨qb, 2, none⟩ = some (.int .i64 m) ∧ w6.cell? ⟨qb, 3, none⟩ = some (.int .u64 (f0 : Nat)) ∧ w6.cell? ⟨qb, 4, none⟩ = some (.int .u64 (t0 : Nat)) := ⟨rg_cell O6.out rfl, rg_cell O6.out rfl, rg_cell O6.out rfl, rg_cell O6.out rfl⟩; clear h6 j6)
            | (go_at_call 11; (with_reducible refine (CQ.out _ K6.out.rg).mono ?_); rintro e w7 ⟨V7, rfl, h7, t7, n7⟩; obtain ⟨h7, j7⟩ := K6.out.ref HL.out h7 t7 (fun q hq => .inr (n7 q hq)); have K7 := Lib.hid h7; have O7 := Lib.hid (O6.out.kept j7 (by simp)); clear h7 j7 t7 n7))
          go_meet
          exact ⟨s.point f0 t0 d, f, t, V7, by simp [GS.point]; omega, by simp [GS.point]; omega, ⟨HS.out.a, HS.out.f, HS.out.t, fun p hp => by
            rcases List.mem_append.1 hp with z | z
            · exact HS.out.l p z
            · rw [List.mem_singleton.1 z]; exact ⟨hf0, ht0, (by show (0 : Nat) < 40; decide)⟩⟩, K7, O7⟩
        by_cases k4 : k = 4
        · subst k4
          have CT : Hid (∀ w (s' : GS) B, s'.l.length ≤ i → s'.k ≤ 60 * i + 60 → GX VG W w B gb s' → Calls Try.prog 12 #[.pointer (some ⟨gb, 0, none⟩)] w (GXPost VG W w B gb (.tuple #[]) s'.tick)) := fun w s' B h1 h2 h => h.tick HL.out (by omega) (by omega)
          clear k1 k2 k3 r0 o1 o3 o4 o2
          obtain ⟨gz, rfl⟩ : ∃ gz : Nat, gz = gk := ⟨_, rfl⟩
          have o2 : w5.cell? ⟨qb, 2, none⟩ = some (.int .i64 m) := rg_cell O1.out rfl
          go_wp2_with fail
          clear o2
          go_loopg [9] 61 (fun gh s9 wx => ∃ (j : Nat) (s' : GS) (V' : Value), j + gh = 61 ∧ j ≤ 60 ∧ s9 = .int .i64 (j : Nat) ∧ s'.l.length ≤ i ∧ s'.k ≤ 60 * i + j ∧ Hid (Same s' f t) ∧ Hid (PX VG W wx [qb] gb rb s' s'.shut f t s'.l V') ∧ Hid (OB wx qb 4 d m f0 t0))
          case atStart => exact ⟨0, s, V, by omega, by omega, rfl, by omega, by omega, HS, K1, O1⟩
          case round =>
            obtain ⟨j, s', V', hjg, hj, rfl, hl', hk', HS', K', O'⟩ := hrel
            have o2 : wr.cell? ⟨qb, 2, none⟩ = some (.int .i64 m) := rg_cell O'.out rfl
            by_cases hjm : (j : Int) < m
            · have d1 : decide ((j : Int) < m) = true := decide_eq_true hjm
              by_cases hj6 : j < 60
              · have d2 : decide ((j : Int) < 60) = true := decide_eq_true (by omega)
                have zj : IntKind.i64.wrap ((j : Int) + 1) = (j : Int) + 1 := by rw [IntKind.wrap_i64]; omega
                clear hjm
                go_wp2_with (first
                  | (go_at_call 12; (with_reducible refine (CT.out _ _ _ hl' (by omega) K'.out.gx).mono ?_); rintro e w6 ⟨rfl, h6, j6⟩; obtain ⟨h6, j6⟩ := K'.out.gate h6 j6; have K6 := Lib.hid h6; have O6 := Lib.hid (O'.out.kept j6 (by simp)); have CQ := Lib.hid (refTick_any K6.out.rg (by omega) HS'.out.l); clear h6 j6)
                  | (go_at_call 13; (with_reducible refine (CQ.out).mono ?_); rintro e w7 ⟨V7, rfl, h7, t7, n7⟩; obtain ⟨h7, j7⟩ := K6.out.ref HL.out h7 t7 (fun q hq => .inr (n7 q hq)); have K7 := Lib.hid h7; have O7 := Lib.hid (O6.out.kept j7 (by simp)); clear h7 j7 t7 n7))
                go_roundg (gk - 1)
                case measure => omega
                case rel => exact ⟨j + 1, s'.tick, V7, by omega, by omega, by go_num, by have := agedL_len s'.l; show (agedL s'.l).length ≤ i; omega, by show s'.k + 1 ≤ _; omega, ⟨HS'.out.a, HS'.out.f, HS'.out.t, agedL_fit HS'.out.l⟩, K7, O7⟩
              · have d2 : decide ((j : Int) < 60) = false := decide_eq_false (by omega)
                clear hjm
                go_wp2_with fail
                go_meet
                exact ⟨s', f, t, V', by omega, by omega, HS', K', O'⟩
            · have d1 : decide ((j : Int) < m) = false := decide_eq_false hjm
              clear hjm
              go_wp2_with fail
              go_meet
              exact ⟨s', f, t, V', by omega, by omega, HS', K', O'⟩
        have e3 : (k == 3) = false := beq_eq_false_iff_ne.2 k3
        have e4 : (k == 4) = false := beq_eq_false_iff_ne.2 k4
        clear k1 k2 k3 k4 o1 o2 o3 o4 r0
        go_wp2_with fail
        go_meet
        exact ⟨s, f, t, V, by omega, by omega, HS, K1, O1⟩
      case rest =>
        obtain ⟨⟨b1, fa, ta, l1, kk⟩, f1, t1, V1, hl1, hk1, HS1, K2, O2⟩ := hcut
        have hl1 : l1.length ≤ i + 1 := hl1
        have hk1 : kk ≤ 60 * (i + 1) := hk1
        have HFT : Hid (b1 = true → fa = f1 ∧ ta = t1) := HS1.out.a
        obtain ⟨np, hp⟩ : ∃ np, l1.length = np := ⟨_, rfl⟩
        have HP := Lib.hid hp
        rw [hp] at hl1
        obtain ⟨A1, c1, hV1⟩ := own_slice K2.out.rg.v
        have hV1 : V1 = .slice A1 np c1 := by rw [hV1]; show Value.slice A1 l1.length c1 = _; rw [hp]
        subst hV1
        obtain ⟨gz, rfl⟩ : ∃ gz : Nat, gz = gk := ⟨_, rfl⟩
        have CARC : Hid (Calls Try.prog 14 #[.pointer (some ⟨gb, 0, none⟩)] wc fun e w' => e = .returned (.tuple #[.agg (if b1 then #[.int .u64 (fa : Nat), .int .u64 (ta : Nat)] else #[.int .u64 0, .int .u64 0]), .bool b1]) ∧ Below wc.heap.size wc w') := K2.out.gx.arc HL.out
        have CPO : Hid (∀ w B, GX VG W w B gb ⟨b1, fa, ta, l1, kk⟩ → Calls Try.prog 15 #[.pointer (some ⟨gb, 0, none⟩)] w fun e w' => e = .returned (.int .i64 (np : Nat)) ∧ w' = w) := fun w B h => by
          have z := h.points HL.out
          rwa [show (⟨b1, fa, ta, l1, kk⟩ : GS).l.length = np from HP.out] at z
        obtain ⟨pz, hpz, hpl⟩ := wrap_pred t0
        obtain ⟨ps, hps⟩ : ∃ ps : List Nat, [x, f0, t0, pz] = ps := ⟨_, rfl⟩
        have HPB : Hid (∀ y ∈ ps, y < 18446744073709551616) := Lib.hid (four_lt HX.out HFIT.out.f HFIT.out.t hpl hps)
        have hl10 : l1.length ≤ 1000 := by rw [hp]; omega
        have CWH : Hid (∀ w B y, y < 18446744073709551616 → GX VG W w B gb ⟨b1, fa, ta, l1, kk⟩ → Calls Try.prog 16 #[.pointer (some ⟨gb, 0, none⟩), .int .u64 (y : Nat)] w fun e w' => e = .returned (whereV (overL l1 y)) ∧ Below w.heap.size w w') := gp_where HL.out hl10
        have CRW : Hid (∀ w y, y < 18446744073709551616 → RG w rb b1 f1 t1 l1 (.slice A1 np c1) → Calls Try.prog 17 #[.pointer (some ⟨rb, 0, none⟩), .int .u64 (y : Nat)] w fun e w' => e = .returned (whereV (overL l1 y)) ∧ Below w.heap.size w w') := gp_rwhere hl10 HS1.out.l
        have CFZ : Hid (∀ w B y, y < 18446744073709551616 → GX VG W w B gb ⟨b1, fa, ta, l1, kk⟩ → Calls Try.prog 18 #[.pointer (some ⟨gb, 0, none⟩), .int .u64 (y : Nat)] w fun e w' => e = .returned (.bool (b1 && inB f1 t1 y)) ∧ Below w.heap.size w w') := gp_frozen HL.out HFT.out
        have CRF : Hid (∀ w y, y < 18446744073709551616 → RG w rb b1 f1 t1 l1 (.slice A1 np c1) → Calls Try.prog 19 #[.pointer (some ⟨rb, 0, none⟩), .int .u64 (y : Nat)] w fun e w' => e = .returned (.bool (b1 && inB f1 t1 y)) ∧ Below w.heap.size w w') := gp_rfrozen HS1.out.f HS1.out.t
        clear hl10
        clear hp
        have hbc : (b1 = true ∧ fa = f1 ∧ ta = t1) ∨ b1 = false := by
          cases hb : b1 with
          | false => exact .inr rfl
          | true => exact .inl ⟨rfl, HFT.out hb⟩
        have HPS := Lib.hid hps
        clear hps K1 O1 HS
        rcases hbc with ⟨rfl, rfl, rfl⟩ | rfl
        · go_upto_region 28 with (go_at_call 14; (with_reducible refine (CARC.out).mono ?_); rintro e w6 ⟨rfl, h6⟩; have K6 := Lib.hid (K2.out.below HL.out h6); have O6 := Lib.hid (O2.out.below h6); clear h6)
          have K7 := Lib.hid (K6.out.below HL.out ((Below.refl _ _).alloc (Nat.le_refl _) (.cells #[.int .u64 (fa : Nat), .int .u64 (ta : Nat)] 27)))
          have O7 := Lib.hid (O6.out.below ((Below.refl _ _).alloc (Nat.le_refl _) (.cells #[.int .u64 (fa : Nat), .int .u64 (ta : Nat)] 27)))
          have a0 : (w6.alloc (.cells #[.int .u64 (fa : Nat), .int .u64 (ta : Nat)] 27)).cell? ⟨w6.heap.size, 0, none⟩ = some (.int .u64 (fa : Nat)) := by simp
          have a1 : (w6.alloc (.cells #[.int .u64 (fa : Nat), .int .u64 (ta : Nat)] 27)).cell? ⟨w6.heap.size, 1, none⟩ = some (.int .u64 (ta : Nat)) := by simp
          obtain ⟨w7, hw7⟩ : ∃ w, w6.alloc (.cells #[.int .u64 (fa : Nat), .int .u64 (ta : Nat)] 27) = w := ⟨_, rfl⟩
          rw [hw7] at K7 O7 a0 a1 ⊢
          have r0 : w7.cell? ⟨rb, 0, none⟩ = some (.bool true) := rg_cell K7.out.rg.hg rfl
          have r1 : w7.cell? ⟨rb, 1, none⟩ = some (.int .u64 (fa : Nat)) := rg_cell K7.out.rg.hg rfl
          have r2 : w7.cell? ⟨rb, 2, none⟩ = some (.int .u64 (ta : Nat)) := rg_cell K7.out.rg.hg rfl
          have r3 := rg_cell K7.out.rg.hg (o := 3) rfl
          have cp := Lib.hid (fun n : Nat => CPO.out (w7.drewN n) _ (K7.out.gx.below HL.out ⟨rfl, rfl, rfl, Nat.le_refl _, fun _ _ => rfl⟩))
          clear hw7 CARC CPO K2 O2 K6 O6
          go_quiet ((go_at_call 15; exact Calls.quiet_of_same (cp.out _)))
          clear a0 a1 r0 r1 r2 r3 cp
          have q3 : w7.cell? ⟨qb, 3, none⟩ = some (.int .u64 (f0 : Nat)) := rg_cell O7.out rfl
          have q4 : w7.cell? ⟨qb, 4, none⟩ = some (.int .u64 (t0 : Nat)) := rg_cell O7.out rfl
          go_wp2_with fail
          clear q3 q4
          go_loopg [13, 14, 15, 16, 17, 167] 5 (fun gh s13 s14 s15 s16 s17 s167 wx => ∃ (j : Nat), j + gh = 5 ∧ j ≤ 4 ∧ s167 = .int .i64 (j : Nat) ∧ Hid (Below w7.heap.size w7 wx) ∧ Hid (∀ k y, ps[k]? = some y → wx.cell? ⟨w7.heap.size, k, none⟩ = some (.int .u64 (y : Nat))))
          case atStart =>
            refine ⟨0, by omega, by omega, rfl, (gp_drewN _ _).alloc (Nat.le_refl _) _, fun k y hk => ?_⟩
            rw [← HPS.out] at hk
            have h4 : k = 0 ∨ k = 1 ∨ k = 2 ∨ k = 3 := by have := (List.getElem?_eq_some_iff.1 hk).1; simp at this; omega
            rcases h4 with rfl | rfl | rfl | rfl <;> (simp at hk; subst hk; first | exact rg_cell (heap_alloc_new (w7.drewN _) _) rfl | go_simp)
          case round =>
            obtain ⟨j, hjg, hj, rfl, HB, HC⟩ := hrel
            by_cases hj4 : j < 4
            · have j1 : (j : Int) < 4 := by omega
              have zj : IntKind.i64.wrap ((j : Int) + 1) = (j : Int) + 1 := by rw [IntKind.wrap_i64]; omega
              have hjp : j < ps.length := by rw [← HPS.out]; exact hj4
              have e1 := HC.out j _ (List.getElem?_eq_getElem hjp)
              have hy := HPB.out _ (List.getElem_mem hjp)
              generalize ps[j] = y at e1 hy
              obtain ⟨o, ho⟩ : ∃ o, overL l1 y = o := ⟨_, rfl⟩
              have C1 := Lib.hid (fun w B h => CWH.out w B y hy h)
              have C2 := Lib.hid (fun w h => CRW.out w y hy h)
              have C3 := Lib.hid (fun w B h => CFZ.out w B y hy h)
              have C4 := Lib.hid (fun w h => CRF.out w y hy h)
              rw [ho] at C1 C2
              unfold whereV at C1 C2
              generalize o.getD 0 = og at C1 C2
              generalize o.isSome = oi at C1 C2
              clear ho
              have K8 := Lib.hid (K7.out.below HL.out HB.out)
              go_wp2_with (first
                | (go_at_call 16; (with_reducible refine (C1.out _ _ K8.out.gx).mono ?_); rintro e w9 ⟨rfl, h9⟩; have K9 := Lib.hid (K8.out.below HL.out h9); have D9 := Lib.hid h9; clear h9)
                | (go_at_call 17; (with_reducible refine (C2.out _ K9.out.rg).mono ?_); rintro e w10 ⟨rfl, h10⟩; have K10 := Lib.hid (K9.out.below HL.out h10); have D10 := Lib.hid (acc D9.out h10); clear h10)
                | (go_at_call 18; (with_reducible refine (C3.out _ _ K10.out.gx).mono ?_); rintro e w11 ⟨rfl, h11⟩; have K11 := Lib.hid (K10.out.below HL.out h11); have D11 := Lib.hid (acc D10.out h11); clear h11)
                | (go_at_call 19; (with_reducible refine (C4.out _ K11.out.rg).mono ?_); rintro e w12 ⟨rfl, h12⟩; have D12 := Lib.hid (acc D11.out h12); clear h12))
              go_roundg (gk - 1)
              case measure => omega
              case rel => exact ⟨j + 1, by omega, by omega, by go_num, acc HB.out D12.out, fun k y hk => (D12.out.cell (p := ⟨w7.heap.size, k, none⟩) (World.block_lt_of_cell? _ _ (HC.out k y hk))).trans (HC.out k y hk)⟩
            · obtain rfl : j = 4 := by omega
              go_wp2_with fail
              go_roundg (gz - 1)
              case measure => omega
              case rel => exact ⟨i + 1, _, _, _, _, by omega, by omega, by go_num, (by show l1.length ≤ i + 1; first | exact hl1 | omega), (by show kk ≤ 60 * (i + 1); exact hk1), HS1, (K7.out.below HL.out HB.out).less (by simp)⟩
        · go_upto_region 28 with (go_at_call 14; (with_reducible refine (CARC.out).mono ?_); rintro e w6 ⟨rfl, h6⟩; have K6 := Lib.hid (K2.out.below HL.out h6); have O6 := Lib.hid (O2.out.below h6); clear h6)
          have K7 := Lib.hid (K6.out.below HL.out ((Below.refl _ _).alloc (Nat.le_refl _) (.cells #[.int .u64 0, .int .u64 0] 27)))
          have O7 := Lib.hid (O6.out.below ((Below.refl _ _).alloc (Nat.le_refl _) (.cells #[.int .u64 0, .int .u64 0] 27)))
          have a0 : (w6.alloc (.cells #[.int .u64 0, .int .u64 0] 27)).cell? ⟨w6.heap.size, 0, none⟩ = some (.int .u64 0) := by simp
          have a1 : (w6.alloc (.cells #[.int .u64 0, .int .u64 0] 27)).cell? ⟨w6.heap.size, 1, none⟩ = some (.int .u64 0) := by simp
          obtain ⟨w7, hw7⟩ : ∃ w, w6.alloc (.cells #[.int .u64 0, .int .u64 0] 27) = w := ⟨_, rfl⟩
          rw [hw7] at K7 O7 a0 a1 ⊢
          have r0 : w7.cell? ⟨rb, 0, none⟩ = some (.bool false) := rg_cell K7.out.rg.hg rfl
          have r1 : w7.cell? ⟨rb, 1, none⟩ = some (.int .u64 (f1 : Nat)) := rg_cell K7.out.rg.hg rfl
          have r2 : w7.cell? ⟨rb, 2, none⟩ = some (.int .u64 (t1 : Nat)) := rg_cell K7.out.rg.hg rfl
          have r3 := rg_cell K7.out.rg.hg (o := 3) rfl
          have cp := Lib.hid (fun n : Nat => CPO.out (w7.drewN n) _ (K7.out.gx.below HL.out ⟨rfl, rfl, rfl, Nat.le_refl _, fun _ _ => rfl⟩))
          clear hw7 CARC CPO K2 O2 K6 O6
          go_quiet ((go_at_call 15; exact Calls.quiet_of_same (cp.out _)))
          clear a0 a1 r0 r1 r2 r3 cp
          have q3 : w7.cell? ⟨qb, 3, none⟩ = some (.int .u64 (f0 : Nat)) := rg_cell O7.out rfl
          have q4 : w7.cell? ⟨qb, 4, none⟩ = some (.int .u64 (t0 : Nat)) := rg_cell O7.out rfl
          go_wp2_with fail
          clear q3 q4
          go_loopg [13, 14, 15, 16, 17, 167] 5 (fun gh s13 s14 s15 s16 s17 s167 wx => ∃ (j : Nat), j + gh = 5 ∧ j ≤ 4 ∧ s167 = .int .i64 (j : Nat) ∧ Hid (Below w7.heap.size w7 wx) ∧ Hid (∀ k y, ps[k]? = some y → wx.cell? ⟨w7.heap.size, k, none⟩ = some (.int .u64 (y : Nat))))
          case atStart =>
            refine ⟨0, by omega, by omega, rfl, (gp_drewN _ _).alloc (Nat.le_refl _) _, fun k y hk => ?_⟩
            rw [← HPS.out] at hk
            have h4 : k = 0 ∨ k = 1 ∨ k = 2 ∨ k = 3 := by have := (List.getElem?_eq_some_iff.1 hk).1; simp at this; omega
            rcases h4 with rfl | rfl | rfl | rfl <;> (simp at hk; subst hk; first | exact rg_cell (heap_alloc_new (w7.drewN _) _) rfl | go_simp)
          case round =>
            obtain ⟨j, hjg, hj, rfl, HB, HC⟩ := hrel
            by_cases hj4 : j < 4
            · have j1 : (j : Int) < 4 := by omega
              have zj : IntKind.i64.wrap ((j : Int) + 1) = (j : Int) + 1 := by rw [IntKind.wrap_i64]; omega
              have hjp : j < ps.length := by rw [← HPS.out]; exact hj4
              have e1 := HC.out j _ (List.getElem?_eq_getElem hjp)
              have hy := HPB.out _ (List.getElem_mem hjp)
              generalize ps[j] = y at e1 hy
              obtain ⟨o, ho⟩ : ∃ o, overL l1 y = o := ⟨_, rfl⟩
              have C1 := Lib.hid (fun w B h => CWH.out w B y hy h)
              have C2 := Lib.hid (fun w h => CRW.out w y hy h)
              have C3 := Lib.hid (fun w B h => CFZ.out w B y hy h)
              have C4 := Lib.hid (fun w h => CRF.out w y hy h)
              rw [ho] at C1 C2
              unfold whereV at C1 C2
              generalize o.getD 0 = og at C1 C2
              generalize o.isSome = oi at C1 C2
              clear ho
              have K8 := Lib.hid (K7.out.below HL.out HB.out)
              go_wp2_with (first
                | (go_at_call 16; (with_reducible refine (C1.out _ _ K8.out.gx).mono ?_); rintro e w9 ⟨rfl, h9⟩; have K9 := Lib.hid (K8.out.below HL.out h9); have D9 := Lib.hid h9; clear h9)
                | (go_at_call 17; (with_reducible refine (C2.out _ K9.out.rg).mono ?_); rintro e w10 ⟨rfl, h10⟩; have K10 := Lib.hid (K9.out.below HL.out h10); have D10 := Lib.hid (acc D9.out h10); clear h10)
                | (go_at_call 18; (with_reducible refine (C3.out _ _ K10.out.gx).mono ?_); rintro e w11 ⟨rfl, h11⟩; have K11 := Lib.hid (K10.out.below HL.out h11); have D11 := Lib.hid (acc D10.out h11); clear h11)
                | (go_at_call 19; (with_reducible refine (C4.out _ K11.out.rg).mono ?_); rintro e w12 ⟨rfl, h12⟩; have D12 := Lib.hid (acc D11.out h12); clear h12))
              go_roundg (gk - 1)
              case measure => omega
              case rel => exact ⟨j + 1, by omega, by omega, by go_num, acc HB.out D12.out, fun k y hk => (D12.out.cell (p := ⟨w7.heap.size, k, none⟩) (World.block_lt_of_cell? _ _ (HC.out k y hk))).trans (HC.out k y hk)⟩
            · obtain rfl : j = 4 := by omega
              go_wp2_with fail
              go_roundg (gz - 1)
              case measure => omega
              case rel => exact ⟨i + 1, _, _, _, _, by omega, by omega, by go_num, (by show l1.length ≤ i + 1; first | exact hl1 | omega), (by show kk ≤ 60 * (i + 1); exact hk1), HS1, (K7.out.below HL.out HB.out).less (by simp)⟩
    · obtain rfl : n = i := by omega
      have N1 : Hid (∀ w : World, Calls Try.prog 10 #[.pointer none, .agg #[.int .u64 0, .int .u64 0], .int .i64 1] w fun e w' => e = .returned (.tuple #[]) ∧ Below w.heap.size w w') := fun w => HNL.out.point 0 0 1 w
      have N2 : Hid (∀ w : World, Calls Try.prog 12 #[.pointer none] w fun e w' => e = .returned (.tuple #[]) ∧ Below w.heap.size w w') := fun w => HNL.out.tick w
      have N3 : Hid (∀ w : World, Calls Try.prog 14 #[.pointer none] w fun e w' => e = .returned (.tuple #[.agg #[.int .u64 0, .int .u64 0], .bool false]) ∧ Below w.heap.size w w') := fun w => HNL.out.arc w
      have N4 : Hid (∀ w : World, Calls Try.prog 16 #[.pointer none, .int .u64 0] w fun e w' => e = .returned (.tuple #[.int .i64 0, .bool false]) ∧ Below w.heap.size w w') := fun w => HNL.out.where_ 0 w
      have N5 : Hid (∀ w : World, Calls Try.prog 8 #[.pointer none, .agg #[.int .u64 0, .int .u64 0]] w fun e w' => e = .returned (.bool false) ∧ Below w.heap.size w w') := fun w => HNL.out.freeze 0 0 w
      have N6 : Hid (∀ w : World, Calls Try.prog 9 #[.pointer none] w fun e w' => e = .returned (.bool false) ∧ Below w.heap.size w w') := fun w => HNL.out.thaw w
      have N7 : Hid (∀ w : World, Calls Try.prog 18 #[.pointer none, .int .u64 0] w fun e w' => e = .returned (.bool false) ∧ Below w.heap.size w w') := fun w => HNL.out.frozen 0 w
      have N8 : Hid (∀ w : World, Calls Try.prog 15 #[.pointer none] w fun e w' => e = .returned (.int .i64 0) ∧ Below w.heap.size w w') := fun w => HNL.out.points w
      have B0 := Lib.hid HK.out.base
      go_wp2_with (first
        | (go_at_call 10; (with_reducible refine (N1.out _).mono ?_); rintro e u1 ⟨rfl, h⟩; have B1 := Lib.hid (acc B0.out h); clear h)
        | (go_at_call 12; (with_reducible refine (N2.out _).mono ?_); rintro e u2 ⟨rfl, h⟩; have B2 := Lib.hid (acc B1.out h); clear h)
        | (go_at_call 14; (with_reducible refine (N3.out _).mono ?_); rintro e u3 ⟨rfl, h⟩; have B4 := Lib.hid (acc B2.out h); clear h)
        | (go_at_call 16; (with_reducible refine (N4.out _).mono ?_); rintro e u4 ⟨rfl, h⟩; have B5 := Lib.hid (acc (B4.out.alloc B4.out.size _) h); clear h)
        | (go_at_call 8; (with_reducible refine (N5.out _).mono ?_); rintro e u5 ⟨rfl, h⟩; have B6 := Lib.hid (acc B5.out h); clear h)
        | (go_at_call 9; (with_reducible refine (N6.out _).mono ?_); rintro e u6 ⟨rfl, h⟩; have B7 := Lib.hid (acc B6.out h); clear h)
        | (go_at_call 18; (with_reducible refine (N7.out _).mono ?_); rintro e u7 ⟨rfl, h⟩; have B8 := Lib.hid (acc B7.out h); clear h)
        | (go_at_call 15; (with_reducible refine (N8.out _).mono ?_); rintro e u8 ⟨rfl, h⟩; have B9 := Lib.hid (acc B8.out h); clear h))
      go_ret
      exact ⟨rfl, B9.out⟩
end Go.Proofs.Ytompbhkmaalioaa
