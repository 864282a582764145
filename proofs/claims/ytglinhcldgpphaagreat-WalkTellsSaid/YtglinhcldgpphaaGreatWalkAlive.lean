/-
  The first call of stage 5's statements, over ShelfLaws and WalkLaws.
-/
import Derived.Test.YtglinhcldgpphaaGreatWalkLaws
import Derived.Test.YtglinhcldgpphaaGreatFilled
namespace Go.Proofs.YtglinhcldgpphaaGreat
open Go.RowKit

abbrev kA : ByteArray := ⟨#[97]⟩
abbrev kB : ByteArray := ⟨#[98]⟩
abbrev kC : ByteArray := ⟨#[99]⟩
abbrev kE : ByteArray := ⟨#[]⟩
theorem alive_fill : fillL [(kB, kE), (kA, kE), (kC, kE)] = [(kA, kE), (kB, kE), (kC, kE)] := by
  simp [fillL, fill1, putS, putE, rightN, valueN, putN, hasN, placeN, lessB, Lib.toList_data, Op.bytesLess, ByteArray.size]
theorem addrN_a : addrN kA = 6989586621679009792 := by kernel_rfl
theorem adr_a (v : ByteArray) : adr (kA, v) = 6989586621679009792 := addrN_a
theorem addrN_b : addrN kB = 7061644215716937728 := by kernel_rfl
theorem adr_b (v : ByteArray) : adr (kB, v) = 7061644215716937728 := addrN_b
theorem addrN_c : addrN kC = 7133701809754865664 := by kernel_rfl
theorem adr_c (v : ByteArray) : adr (kC, v) = 7133701809754865664 := addrN_c
theorem alive_mid : midL (arcL [(kA, kE), (kB, kE), (kC, kE)] 0 0) = some 7133701809754865664 := by
  simp [arcL, inA, inB, midL, midScan, adr_a, adr_b, adr_c]
theorem alive_rank : placeN [(kA, kE), (kB, kE), (kC, kE)] kC = 2 := by
  simp [placeN, lessB, Lib.toList_data, Op.bytesLess]
set_option maxRecDepth 100000 in
set_option maxHeartbeats 8000000 in
theorem walkAlive_any {SH : ShP} {SQ : SqP} (L : ShelfLaws SH) (K : WalkLaws SH SQ) (W w0 : World) (hw : Below W.heap.size W w0) :
    Calls Tryz.prog 4 #[] w0 fun e w' => e = .returned (.bool true) ∧ Below W.heap.size W w' := by
  have HW := Lib.hid hw
  have HL : Hid (ShelfLaws SH) := L
  have HK : Hid (WalkLaws SH SQ) := K
  obtain ⟨l, hl⟩ : ∃ l, fillL [(kB, kE), (kA, kE), (kC, kE)] = l := ⟨_, rfl⟩
  have hls : ∀ x ∈ l, x.1.size ≤ 16 := fun x hx => (by rw [← hl] at hx; exact ((fillL_fine _).2 x hx).2)
  have HLS := Lib.hid hls
  have hl2 : l = [(kA, kE), (kB, kE), (kC, kE)] := hl.symm.trans alive_fill
  have HL2 := Lib.hid hl2
  obtain ⟨V, hV⟩ : ∃ V, w0.alloc (.cells #[.string kB, .string kE, .string kA, .string kE, .string kC, .string kE] 59) = V := ⟨_, rfl⟩
  have CF : Hid (Calls Tryz.prog 5 #[.slice (some ⟨w0.heap.size, 0, none⟩) 3 3] (w0.alloc (.cells #[.string kB, .string kE, .string kA, .string kE, .string kC, .string kE] 59)) fun e w' => ∃ gs gr, e = .returned (.tuple #[.pointer (some ⟨gs, 0, none⟩), .pointer (some ⟨gr, 0, none⟩)]) ∧ OSW SH SQ V w' gs gr l []) := by
    subst hV
    refine (filled_any L (some ⟨w0.heap.size, 0, none⟩) 3 [(kB, kE), (kA, kE), (kC, kE)] _ _ (Below.refl _ _) ⟨w0.heap.size, 0, fun i hi => ?_⟩ (by simp)).mono ?_
    · have h : i = 0 ∨ i = 1 ∨ i = 2 := by simp at hi; omega
      rcases h with rfl | rfl | rfl <;> refine ⟨rfl, by simp, ?_, ?_⟩ <;> go_simp
    · rintro e w' ⟨gs, gr, rfl, z⟩
      rw [hl] at z
      exact ⟨gs, gr, rfl, z.ways⟩
  have HB0 : Hid (Below W.heap.size W V) := by rw [← hV]; exact hw.alloc hw.size _
  have CA : Hid (∀ w gs gr, OSW SH SQ V w gs gr l [] → Calls Tryz.prog 6 #[.pointer (some ⟨gs, 0, none⟩)] w fun e w' => ∃ fv, e = .returned fv ∧ OSW SH SQ V w' gs gr l [(fv, .all)]) := fun w gs gr h => (h.all L K).mono fun e w' ⟨fv, z1, z2, _⟩ => ⟨fv, z1, z2⟩
  have CC : Hid (∀ w gs gr fv, OSW SH SQ V w gs gr l [(fv, .all)] → Calls Tryz.prog 14 #[fv, .int .i64 9] w fun e w' => ∃ q c, e = .returned (.slice (some ⟨q, 0, none⟩) 3 c) ∧ q < w'.heap.size ∧ w'.cell? ⟨q, 0, none⟩ = some (.string ⟨#[97]⟩) ∧ OSW SH SQ V w' gs gr l []) := fun w gs gr fv h => (h.collect L K (k := .all) (by simp) HLS.out 9 (by omega) (by omega) (a := l) (by rw [HL2.out]; rfl)).mono (by
    rintro e w' ⟨A, c, rfl, z1, z2, z3⟩
    rw [HL2.out] at z1
    obtain ⟨q, rfl⟩ := own_at z1 (by simp)
    exact ⟨q, c, by rw [HL2.out]; rfl, (z1.lt q rfl).2, z1.cellAt 0 (by simp), z2.less (by simp)⟩)
  have CM : Hid (∀ w gs gr, OSW SH SQ V w gs gr l [] → Calls Tryz.prog 17 #[.pointer (some ⟨gs, 0, none⟩), .agg #[.int .u64 0, .int .u64 0]] w fun e w' => e = .returned (.tuple #[.int .u64 7133701809754865664, .bool true]) ∧ OSW SH SQ V w' gs gr l [] ∧ Below w.heap.size w w') := fun w gs gr h => h.middle L K HLS.out 0 0 (by omega) (by omega) (o := some 7133701809754865664) (by rw [HL2.out]; exact alive_mid)
  have CT : Hid (∀ w gs gr, OSW SH SQ V w gs gr l [] → Calls Tryz.prog 18 #[.pointer (some ⟨gs, 0, none⟩), .int .i64 1] w fun e w' => e = .returned (.tuple #[.agg #[.string ⟨#[98]⟩, .string ⟨#[]⟩], .bool true]) ∧ OSW SH SQ V w' gs gr l [] ∧ Below w.heap.size w w') := fun w gs gr h => h.at_ L K 1 (by omega) (by omega) (by rw [HL2.out]; rfl)
  have CK : Hid (∀ w gs gr, OSW SH SQ V w gs gr l [] → Calls Tryz.prog 19 #[.pointer (some ⟨gs, 0, none⟩), .string ⟨#[99]⟩] w fun e w' => e = .returned (.int .i64 2) ∧ OSW SH SQ V w' gs gr l [] ∧ Below w.heap.size w w') := fun w gs gr h => h.rank L K kC (by simp [ByteArray.size, maxLen]) (by rw [HL2.out]; exact alive_rank)
  clear hl hls hl2 hV
  go_enter Tryz.func4, Tryz.ntmps4
  go_wp2_with (first
    | (go_at_call 5; (with_reducible refine (CF.out).mono ?_); rintro e w1 ⟨gs, gr, rfl, h1⟩; have H1 := Lib.hid h1; clear h1)
    | (go_at_call 6; (with_reducible refine (CA.out _ _ _ H1.out).mono ?_); rintro e w2 ⟨fv, rfl, h2⟩; have H2 := Lib.hid h2; clear h2)
    | (go_at_call 14; (with_reducible refine (CC.out _ _ _ _ H2.out).mono ?_); rintro e w3 ⟨q, c, rfl, hq3, p3, h3⟩; have H3 := Lib.hid h3; clear h3)
    | (go_at_call 17; (with_reducible refine (CM.out _ _ _ H3.out).mono ?_); rintro e w4 ⟨rfl, h4, b4⟩; have H4 := Lib.hid h4; have p4 := (b4.cell (p := ⟨q, 0, none⟩) hq3).trans p3; have hq4 : q < w4.heap.size := Nat.lt_of_lt_of_le hq3 b4.size; clear h4 b4)
    | (go_at_call 18; (with_reducible refine (CT.out _ _ _ H4.out).mono ?_); rintro e w5 ⟨rfl, h5, b5⟩; have H5 := Lib.hid h5; have H6 : Hid (OSW SH SQ V (w5.alloc (.cells #[.string ⟨#[98]⟩, .string ⟨#[]⟩] 59)) gs gr l []) := h5.below L K ((Below.refl _ _).alloc (Nat.le_refl _) _); have p5 := (b5.cell (p := ⟨q, 0, none⟩) hq4).trans p4; have hq5 : q < w5.heap.size := Nat.lt_of_lt_of_le hq4 b5.size; have p6 : (w5.alloc (.cells #[.string ⟨#[98]⟩, .string ⟨#[]⟩] 59)).cell? ⟨q, 0, none⟩ = some (.string ⟨#[97]⟩) := (((Below.refl w5.heap.size w5).alloc (Nat.le_refl _) _).cell (p := ⟨q, 0, none⟩) hq5).trans p5; clear h5 b5)
    | (go_at_call 19; (with_reducible refine (CK.out _ _ _ H6.out).mono ?_); rintro e w7 ⟨rfl, h7, b7⟩; have H7 := Lib.hid h7; clear h7 b7))
  go_ret
  exact ⟨rfl, acc HB0.out H7.out.1⟩
end Go.Proofs.YtglinhcldgpphaaGreat
