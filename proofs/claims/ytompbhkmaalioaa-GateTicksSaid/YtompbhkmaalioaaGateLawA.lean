/-
  An arc is shut till it is opened, and nothing else is; another one must wait (GateShut).
-/
import Derived.Test.YtompbhkmaalioaaGateAlive
import Derived.Deep.RegionHeld3
import Derived.Deep.DeepCutAuto
namespace Go.Proofs.Ytompbhkmaalioaa
open Go.RowKit

/-- an arc in a box -/
def ArcBox (w : World) (q f t : Nat) : Prop := w.cell? ⟨q, 0, none⟩ = some (.int .u64 (f : Nat)) ∧ w.cell? ⟨q, 1, none⟩ = some (.int .u64 (t : Nat))
theorem ArcBox.lt {w : World} {q f t : Nat} (h : ArcBox w q f t) : q < w.heap.size := World.block_lt_of_cell? _ _ h.1
theorem ArcBox.kept {w w' : World} {q f t : Nat} {P : List Nat} (h : ArcBox w q f t) (k : Kept P w w') (hq : q ∈ P) : ArcBox w' q f t :=
  ⟨(k.cell (p := ⟨q, 0, none⟩) hq h.lt).trans h.1, (k.cell (p := ⟨q, 1, none⟩) hq h.lt).trans h.2⟩
theorem ArcBox.below {w w' : World} {q f t : Nat} (h : ArcBox w q f t) (k : Below w.heap.size w w') : ArcBox w' q f t := h.kept (P := [q]) (Kept.below k) (by simp)
theorem arcBox_new (w : World) (f t : Nat) : ArcBox (w.alloc (.cells #[.int .u64 (f : Nat), .int .u64 (t : Nat)] 27)) w.heap.size f t := ⟨by simp, by simp⟩
theorem boxes {w w' : World} {qa qb f1 t1 f2 t2 : Nat} (h : Hid ((w.cell? ⟨qa, 0, none⟩ = some (.int .u64 (f1 : Nat)) ∧ w.cell? ⟨qa, 1, none⟩ = some (.int .u64 (t1 : Nat))) ∧ (w.cell? ⟨qb, 0, none⟩ = some (.int .u64 (f2 : Nat)) ∧ w.cell? ⟨qb, 1, none⟩ = some (.int .u64 (t2 : Nat)))))
    (k : Kept [qa, qb] w w') : Hid ((w'.cell? ⟨qa, 0, none⟩ = some (.int .u64 (f1 : Nat)) ∧ w'.cell? ⟨qa, 1, none⟩ = some (.int .u64 (t1 : Nat))) ∧ (w'.cell? ⟨qb, 0, none⟩ = some (.int .u64 (f2 : Nat)) ∧ w'.cell? ⟨qb, 1, none⟩ = some (.int .u64 (t2 : Nat)))) :=
  ⟨ArcBox.kept (w := w) h.out.1 k (by simp), ArcBox.kept (w := w) h.out.2 k (by simp)⟩
theorem boxes3 {w w' : World} {qa qb qc f1 t1 f2 t2 : Nat} (h : Hid ((w.cell? ⟨qc, 0, none⟩ = some (.int .u64 (f1 : Nat)) ∧ w.cell? ⟨qc, 1, none⟩ = some (.int .u64 (t1 : Nat))) ∧ (w.cell? ⟨qa, 0, none⟩ = some (.int .u64 (f1 : Nat)) ∧ w.cell? ⟨qa, 1, none⟩ = some (.int .u64 (t1 : Nat))) ∧ (w.cell? ⟨qb, 0, none⟩ = some (.int .u64 (f2 : Nat)) ∧ w.cell? ⟨qb, 1, none⟩ = some (.int .u64 (t2 : Nat)))))
    (k : Kept [qc, qa, qb] w w') : Hid ((w'.cell? ⟨qc, 0, none⟩ = some (.int .u64 (f1 : Nat)) ∧ w'.cell? ⟨qc, 1, none⟩ = some (.int .u64 (t1 : Nat))) ∧ (w'.cell? ⟨qa, 0, none⟩ = some (.int .u64 (f1 : Nat)) ∧ w'.cell? ⟨qa, 1, none⟩ = some (.int .u64 (t1 : Nat))) ∧ (w'.cell? ⟨qb, 0, none⟩ = some (.int .u64 (f2 : Nat)) ∧ w'.cell? ⟨qb, 1, none⟩ = some (.int .u64 (t2 : Nat)))) :=
  ⟨ArcBox.kept (w := w) h.out.1 k (by simp), ArcBox.kept (w := w) h.out.2.1 k (by simp), ArcBox.kept (w := w) h.out.2.2 k (by simp)⟩
set_option maxRecDepth 20000 in
set_option maxHeartbeats 8000000 in
theorem gateShut_any {VG : World → Nat → GS → List Nat → Prop} (L : GateLaws VG) (f1 t1 f2 t2 x : Nat) (W : World) (hf1 : f1 < 18446744073709551616) (ht1 : t1 < 18446744073709551616) (hf2 : f2 < 18446744073709551616) (ht2 : t2 < 18446744073709551616) (hx : x < 18446744073709551616) :
    Calls Try.prog 5 #[.agg #[.int .u64 (f1 : Nat), .int .u64 (t1 : Nat)], .agg #[.int .u64 (f2 : Nat), .int .u64 (t2 : Nat)], .int .u64 (x : Nat)] W fun e w' => e = .returned (.bool true) ∧ Below W.heap.size W w' := by
  have CA := Lib.hid (gateAlive_any L)
  obtain ⟨qa, hqa⟩ : ∃ q, W.heap.size = q := ⟨_, rfl⟩
  obtain ⟨qb, hqb⟩ : ∃ q, W.heap.size + 1 = q := ⟨_, rfl⟩
  obtain ⟨ia, hia⟩ : ∃ b, inB f1 t1 x = b := ⟨_, rfl⟩
  obtain ⟨ib, hib⟩ : ∃ b, inB f2 t2 x = b := ⟨_, rfl⟩
  obtain ⟨SA, hSA⟩ : ∃ s : GS, (⟨true, f1, t1, [], 0⟩ : GS) = s := ⟨_, rfl⟩
  obtain ⟨SB, hSB⟩ : ∃ s : GS, (⟨true, f2, t2, [], 0⟩ : GS) = s := ⟨_, rfl⟩
  have CIA : Hid (∀ w, Calls Try.prog 20 #[.agg #[.int .u64 (f1 : Nat), .int .u64 (t1 : Nat)], .int .u64 (x : Nat)] w fun e w' => e = .returned (.bool ia) ∧ Below w.heap.size w w') := fun w => by rw [← hia]; exact in_any f1 t1 x w hf1 ht1 hx
  have CIB : Hid (∀ w, Calls Try.prog 20 #[.agg #[.int .u64 (f2 : Nat), .int .u64 (t2 : Nat)], .int .u64 (x : Nat)] w fun e w' => e = .returned (.bool ib) ∧ Below w.heap.size w w') := fun w => by rw [← hib]; exact in_any f2 t2 x w hf2 ht2 hx
  have CZ0 : Hid (∀ w P g, GX VG W w P g G0 → Calls Try.prog 18 #[.pointer (some ⟨g, 0, none⟩), .int .u64 (x : Nat)] w fun e w' => e = .returned (.bool false) ∧ Below w.heap.size w w') := fun w P g h => h.frozen L x hx
  have CZA : Hid (∀ w P g, GX VG W w P g SA → Calls Try.prog 18 #[.pointer (some ⟨g, 0, none⟩), .int .u64 (x : Nat)] w fun e w' => e = .returned (.bool ia) ∧ Below w.heap.size w w') := fun w P g h => by subst hSA hia; exact h.frozen L x hx
  have CZB : Hid (∀ w P g, GX VG W w P g SB → Calls Try.prog 18 #[.pointer (some ⟨g, 0, none⟩), .int .u64 (x : Nat)] w fun e w' => e = .returned (.bool ib) ∧ Below w.heap.size w w') := fun w P g h => by subst hSB hib; exact h.frozen L x hx
  have CFA : Hid (∀ w P g, GX VG W w P g G0 → Calls Try.prog 8 #[.pointer (some ⟨g, 0, none⟩), .agg #[.int .u64 (f1 : Nat), .int .u64 (t1 : Nat)]] w (GXPost VG W w P g (.bool true) SA)) := fun w P g h => by subst hSA; exact h.freeze L f1 t1 hf1 ht1
  have CFN : Hid (∀ w P g, GX VG W w P g SA → Calls Try.prog 8 #[.pointer (some ⟨g, 0, none⟩), .agg #[.int .u64 (f2 : Nat), .int .u64 (t2 : Nat)]] w (GXPost VG W w P g (.bool false) SA)) := fun w P g h => by subst hSA; exact h.freeze L f2 t2 hf2 ht2
  have CFB : Hid (∀ w P g, GX VG W w P g G0 → Calls Try.prog 8 #[.pointer (some ⟨g, 0, none⟩), .agg #[.int .u64 (f2 : Nat), .int .u64 (t2 : Nat)]] w (GXPost VG W w P g (.bool true) SB)) := fun w P g h => by subst hSB; exact h.freeze L f2 t2 hf2 ht2
  have CTA : Hid (∀ w P g, GX VG W w P g SA → Calls Try.prog 9 #[.pointer (some ⟨g, 0, none⟩)] w (GXPost VG W w P g (.bool true) G0)) := fun w P g h => by subst hSA; exact h.thaw L
  have CT0 : Hid (∀ w P g, GX VG W w P g G0 → Calls Try.prog 9 #[.pointer (some ⟨g, 0, none⟩)] w (GXPost VG W w P g (.bool false) G0)) := fun w P g h => h.thaw L
  have CRA : Hid (∀ w P g, GX VG W w P g SA → Calls Try.prog 14 #[.pointer (some ⟨g, 0, none⟩)] w fun e w' => e = .returned (.tuple #[.agg #[.int .u64 (f1 : Nat), .int .u64 (t1 : Nat)], .bool true]) ∧ Below w.heap.size w w') := fun w P g h => by subst hSA; exact h.arc L
  unfold GXPost at CFA CFN CFB CTA CT0
  have CB : Hid (∀ w w1 P g s, GX VG W w P g s → Below w.heap.size w w1 → GX VG W w1 P g s) := fun w w1 P g s h hb => h.below L hb
  have CG : Hid (∀ w P, Below W.heap.size W w → (∀ q ∈ P, q < w.heap.size) → GX VG W (w.alloc (.cells GZ 31)) P w.heap.size G0) := fun w P h hP => GX.zero L h hP
  have CM : Hid (∀ w w1 P Q g s, GX VG W w P g s → Below w.heap.size w w1 → (∀ q ∈ Q, w.heap.size ≤ q ∧ q < w1.heap.size) → GX VG W w1 (Q ++ P) g s) := fun w w1 P Q g s h hb hQ => h.more L hb hQ
  have HQA := Lib.hid hqa
  have HQB := Lib.hid hqb
  clear hia hib hSA hSB hf1 ht1 hf2 ht2 hx hqa hqb
  have B2 : Hid (Below W.heap.size W ((W.alloc (.cells #[.int .u64 (f1 : Nat), .int .u64 (t1 : Nat)] 27)).alloc (.cells #[.int .u64 (f2 : Nat), .int .u64 (t2 : Nat)] 27))) := ((Below.refl _ _).alloc (Nat.le_refl _) _).alloc (by simp) _
  have BA2 : Hid (ArcBox ((W.alloc (.cells #[.int .u64 (f1 : Nat), .int .u64 (t1 : Nat)] 27)).alloc (.cells #[.int .u64 (f2 : Nat), .int .u64 (t2 : Nat)] 27)) qa f1 t1) := by
    rw [← HQA.out]
    exact (arcBox_new W f1 t1).below ((Below.refl _ _).alloc (Nat.le_refl _) _)
  have BB2 : Hid (ArcBox ((W.alloc (.cells #[.int .u64 (f1 : Nat), .int .u64 (t1 : Nat)] 27)).alloc (.cells #[.int .u64 (f2 : Nat), .int .u64 (t2 : Nat)] 27)) qb f2 t2) := by
    rw [← HQB.out]
    have z := arcBox_new (W.alloc (.cells #[.int .u64 (f1 : Nat), .int .u64 (t1 : Nat)] 27)) f2 t2
    exact Lib.hid (by simpa using z)
  go_enter Try.func5, Try.ntmps5
  go_upto_region 3 with (go_at_call 7; (with_reducible refine (CA.out _).mono ?_); rintro e w3 ⟨rfl, h3⟩; have B3 := Lib.hid (acc B2.out h3); have BA3 := Lib.hid (BA2.out.below h3); have BB3 := Lib.hid (BB2.out.below h3); clear h3)
  have K0 : Hid (GX VG W (w3.alloc (.cells GZ 31)) [qa, qb] w3.heap.size G0) := CG.out _ _ B3.out (fun q hq => by
    simp at hq
    rcases hq with rfl | rfl
    · exact BA3.out.lt
    · exact BB3.out.lt)
  have BA4 := Lib.hid (BA3.out.below ((Below.refl _ _).alloc (Nat.le_refl _) (.cells GZ 31)))
  have BB4 := Lib.hid (BB3.out.below ((Below.refl _ _).alloc (Nat.le_refl _) (.cells GZ 31)))
  go_upto_region 4 with fail
  obtain ⟨w4, hw4⟩ : ∃ w, w3.alloc (.cells GZ 31) = w := ⟨_, rfl⟩
  obtain ⟨gb, hgb⟩ : ∃ gb, w3.heap.size = gb := ⟨_, rfl⟩
  rw [hw4, hgb] at K0
  rw [hw4] at BA4 BB4
  rw [hw4, hgb, HQB.out, HQA.out]
  clear hw4 hgb BA3 BB3 B3 BA2 BB2 B2
  have K4 := Lib.hid (CB.out _ _ _ _ _ K0.out (Below.refl _ _).drew)
  have S4 := Lib.hid (And.intro (BA4.out.below (Below.refl _ _).drew) (BB4.out.below (Below.refl _ _).drew))
  unfold ArcBox at S4
  clear K0 BA4 BB4
  go_region_held3 (fun w' => (w'.cell? ⟨qa, 0, none⟩ = some (.int .u64 (f1 : Nat)) ∧ w'.cell? ⟨qa, 1, none⟩ = some (.int .u64 (t1 : Nat))) ∧ (w'.cell? ⟨qb, 0, none⟩ = some (.int .u64 (f2 : Nat)) ∧ w'.cell? ⟨qb, 1, none⟩ = some (.int .u64 (t2 : Nat)))) (first | exact S9.out | exact S8.out | exact S7.out | exact S6.out | exact S5.out | exact S4.out)
    (first
      | (go_at_call 18; (with_reducible refine (CZA.out _ _ _ K7.out).mono ?_); rintro e w8 ⟨rfl, h8⟩; have K8 := Lib.hid (CB.out _ _ _ _ _ K7.out h8); have S8 := boxes S7 (Kept.below h8); clear h8)
      | (go_at_call 18; (with_reducible refine (CZ0.out _ _ _ K4.out).mono ?_); rintro e w5 ⟨rfl, h5⟩; have K5 := Lib.hid (CB.out _ _ _ _ _ K4.out h5); have S5 := boxes S4 (Kept.below h5); clear h5)
      | (go_at_call 8; (with_reducible refine (CFN.out _ _ _ K6.out).mono ?_); rintro e w7 ⟨rfl, h7, k7⟩; have K7 := Lib.hid h7; have S7 := boxes S6 k7; clear h7 k7)
      | (go_at_call 8; (with_reducible refine (CFA.out _ _ _ K5.out).mono ?_); rintro e w6 ⟨rfl, h6, k6⟩; have K6 := Lib.hid h6; have S6 := boxes S5 k6; clear h6 k6)
      | (go_at_call 20; (with_reducible refine (CIA.out _).mono ?_); rintro e w9 ⟨rfl, h9⟩; have K9 := Lib.hid (CB.out _ _ _ _ _ K8.out h9); have S9 := boxes S8 (Kept.below h9); clear h9))
  clear S4 S5 S6 S7 S8 K4 K5 K6 K7 K8
  go_upto_region 7 with (go_at_call 14; (with_reducible refine (CRA.out _ _ _ K9.out).mono ?_); rintro e w10 ⟨rfl, h10⟩; have K10 := Lib.hid (CB.out _ _ _ _ _ K9.out h10); have S10 := boxes S9 (Kept.below h10); clear h10)
  have K11 := Lib.hid (CM.out _ _ _ [w10.heap.size] _ _ K10.out ((Below.refl _ _).alloc (Nat.le_refl _) (.cells #[.int .u64 (f1 : Nat), .int .u64 (t1 : Nat)] 27)) (fun q hq => by simp at hq; subst hq; simp))
  have BC11 := Lib.hid (arcBox_new w10 f1 t1)
  have S11 := boxes S10 (Kept.below ((Below.refl _ _).alloc (Nat.le_refl _) (.cells #[.int .u64 (f1 : Nat), .int .u64 (t1 : Nat)] 27)))
  obtain ⟨w11, hw11⟩ : ∃ w, w10.alloc (.cells #[.int .u64 (f1 : Nat), .int .u64 (t1 : Nat)] 27) = w := ⟨_, rfl⟩
  obtain ⟨qc, hqc⟩ : ∃ q, w10.heap.size = q := ⟨_, rfl⟩
  rw [hw11, hqc] at K11 BC11
  rw [hw11] at S11
  rw [hw11, hqc]
  clear hw11 hqc S9 S10 K9 K10
  have S12 := boxes3 (w := w11) (w' := w11.drew) (qa := qa) (qb := qb) (qc := qc) (f1 := f1) (t1 := t1) (f2 := f2) (t2 := t2) (Lib.hid ⟨BC11.out, S11.out.1, S11.out.2⟩) (Kept.below (Below.refl _ _).drew)
  have K12 := Lib.hid (CB.out _ _ _ _ _ K11.out (Below.refl _ _).drew)
  clear K11 S11 BC11
  rw [List.singleton_append] at K12
  go_region_held3 (fun w' => (w'.cell? ⟨qc, 0, none⟩ = some (.int .u64 (f1 : Nat)) ∧ w'.cell? ⟨qc, 1, none⟩ = some (.int .u64 (t1 : Nat))) ∧ (w'.cell? ⟨qa, 0, none⟩ = some (.int .u64 (f1 : Nat)) ∧ w'.cell? ⟨qa, 1, none⟩ = some (.int .u64 (t1 : Nat))) ∧ (w'.cell? ⟨qb, 0, none⟩ = some (.int .u64 (f2 : Nat)) ∧ w'.cell? ⟨qb, 1, none⟩ = some (.int .u64 (t2 : Nat)))) (first | exact S18.out | exact S17.out | exact S16.out | exact S15.out | exact S14.out | exact S13.out | exact S12.out)
    (first
      | (go_at_call 9; (with_reducible refine (CT0.out _ _ _ K13.out).mono ?_); rintro e w14 ⟨rfl, h14, k14⟩; have K14 := Lib.hid h14; have S14 := boxes3 S13 k14; clear h14 k14)
      | (go_at_call 9; (with_reducible refine (CTA.out _ _ _ K12.out).mono ?_); rintro e w13 ⟨rfl, h13, k13⟩; have K13 := Lib.hid h13; have S13 := boxes3 S12 k13; clear h13 k13)
      | (go_at_call 18; (with_reducible refine (CZB.out _ _ _ K16.out).mono ?_); rintro e w17 ⟨rfl, h17⟩; have K17 := Lib.hid (CB.out _ _ _ _ _ K16.out h17); have S17 := boxes3 S16 (Kept.below h17); clear h17)
      | (go_at_call 18; (with_reducible refine (CZ0.out _ _ _ K14.out).mono ?_); rintro e w15 ⟨rfl, h15⟩; have K15 := Lib.hid (CB.out _ _ _ _ _ K14.out h15); have S15 := boxes3 S14 (Kept.below h15); clear h15)
      | (go_at_call 8; (with_reducible refine (CFB.out _ _ _ K15.out).mono ?_); rintro e w16 ⟨rfl, h16, k16⟩; have K16 := Lib.hid h16; have S16 := boxes3 S15 k16; clear h16 k16)
      | (go_at_call 20; (with_reducible refine (CIB.out _).mono ?_); rintro e w18 ⟨rfl, h18⟩; have K18 := Lib.hid (CB.out _ _ _ _ _ K17.out h18); have S18 := boxes3 S17 (Kept.below h18); clear h18))
  go_wp2_with fail
  go_ret
  exact ⟨rfl, K18.out.base⟩
end Go.Proofs.Ytompbhkmaalioaa
