/-
  The book of points: Apart. (Written by tools/genBookQ.py, out of the book of items.)
-/
import Derived.Test.YtfpoapmbpbkibaaPbPut
import Derived.Test.YtfpoapmbpbkibaaPbMark
import Derived.Test.YtfpoapmbpbkibaaPbGrow
import Derived.Test.YtfpoapmbpbkibaaPbNil
namespace Go.Proofs.Ytfpoapmbpbkibaa.Pb
open Go.RowKit Go.Proofs.Ytfpoapmbpbkibaa

def NN (g : Nat) (W : World) : Prop := ∀ j, j < 14 → j ≠ 4 → j ≠ 5 → W.cell? ⟨g, j, .none⟩ = some (.slice .none 0 0)
theorem NN.at_ {g : Nat} {W : World} (h : NN g W) (j : Nat) (a : j < 14) (b : j ≠ 4) (c : j ≠ 5) : W.cell? ⟨g, j, .none⟩ = some (.slice .none 0 0) := h j a b c
theorem NN.touch {g : Nat} {W W1 : World} {G : List Nat} (h : NN g W) (hl : g < W.heap.size) (ht : Touch G W W1) (hg : g ∉ G) : NN g W1 := fun j a b c => (ht.cell (p := ⟨g, j, .none⟩) hl hg).trans (h j a b c)
theorem apart_step {wb W W1 : World} {A : World → Prop} (HSS : ∀ w', Below wb.heap.size wb w' → Below wb.heap.size wb w' ∧ A w') (h : Below wb.heap.size wb W ∧ A W) (k : Below W.heap.size W W1) : Below wb.heap.size wb W1 ∧ A W1 := HSS _ (acc h.1 k)
theorem marked_call {b n : Nat} {A : Option Addr} {c : Nat} {es : List (Value × List Int)} (hn : es.length = n) (W : World) (ho : W.ownsRow b 23 1 (.slice A n c) n (es.map (·.1))) (hr : ∀ x ∈ es, rowOk W x) (hM : Marked es) (hl : ∀ x ∈ es, x.2.length ≤ 100000) (he : n ≤ 250) :
    Calls Try.prog 50 #[.slice A n c] W fun e w' => e = .returned (.bool true) ∧ Below W.heap.size W w' := by
  subst hn
  exact markedPoints_any b A c es W ho hr hM hl he
theorem markTo_marked (es : List (Value × List Int)) : Marked (markTo es.length es) := by
  intro j h
  have h2 : j < es.length := by simpa [markTo] using h
  have e := markTo_at es.length es j h h2
  rw [if_pos h2] at e
  rw [e]
  simp [markL_length]
theorem markTo_lens (es : List (Value × List Int)) (m : Nat) (hl : ∀ x ∈ es, x.2.length ≤ m) : ∀ x ∈ markTo es.length es, x.2.length ≤ m := by
  intro x hx
  obtain ⟨j, h, rfl⟩ := List.mem_iff_getElem.1 hx
  have h2 : j < es.length := by simpa [markTo] using h
  have e := markTo_at es.length es j h h2
  rw [if_pos h2] at e
  rw [e, markL_length]
  exact hl _ (List.getElem_mem h2)

set_option maxRecDepth 100000 in
set_option maxHeartbeats 8000000 in
theorem apart_any (g : Nat) (va vb : Value) (es us : List (Value × List Int)) (W : World) (hB : BK W g va vb es us) (he : es.length ≤ 250) (hl : ∀ x ∈ es, x.2.length ≤ 90000) :
    Calls Try.prog 20 #[.pointer (some ⟨g, 0, none⟩)] W fun e w' => e = .returned (.bool true) ∧ Touch (fps es) W w' := by
  obtain ⟨A6, d6, rfl⟩ := own_slice hB.own6
  have N0 : Hid (NN g W) := hB.none
  have HLt := Lib.hid hB.lt
  have CS := Lib.hid (stillPoints_any g _ vb es us W hB he (fun x hx => Nat.le_trans (hl x hx) (by omega)))
  have CP : Hid (∀ w1, Below W.heap.size W w1 → Calls Try.prog 38 #[.pointer (some ⟨g, 0, none⟩)] w1 fun e w' => e = .returned (.tuple #[]) ∧ BL w' g (.slice A6 es.length d6) (markTo es.length es) ∧ Touch (fps es) w1 w') :=
    fun w1 h => putPoints_any g _ es w1 (hB.touch (Touch.ofBelow (F := []) h) (by simp)).lists he (fun x hx => Nat.le_trans (hl x hx) (by omega))
  have HFP := Lib.hid (markTo_fps es.length es)
  have HFN := Lib.hid (markTo_length es.length es)
  have HFM := Lib.hid (markTo_marked es)
  have HFL := Lib.hid (markTo_lens es 90000 hl)
  obtain ⟨fs, hfs⟩ : ∃ fs, markTo es.length es = fs := ⟨_, rfl⟩
  rw [hfs] at CP HFP HFN HFM HFL
  have CW : Hid (∀ w2, BL w2 g (.slice A6 es.length d6) fs → Calls Try.prog 43 #[.pointer (some ⟨g, 0, none⟩)] w2 (GrowPost w2 g (.slice A6 es.length d6) fs)) :=
    fun w2 h => growPoints_any g _ fs w2 h (by rw [HFN.out]; exact he) HFL.out HFM.out
  obtain ⟨n, hn⟩ : ∃ n, es.length = n := ⟨_, rfl⟩
  rw [hn] at CP CW HFN he
  have HE := Lib.hid he
  clear hB hl hfs hn he
  have markedNilTexts := Lib.hid (fun W1 : World => markedTexts_nil W1)
  have markedNilInts := Lib.hid (fun W1 : World => markedInts_nil W1)
  have markedNilItems := Lib.hid (fun W1 : World => markedItems_nil W1)
  have markedNilOwneds := Lib.hid (fun W1 : World => markedOwneds_nil W1)
  have markedNilEvents := Lib.hid (fun W1 : World => markedEvents_nil W1)
  have markedNilLetters := Lib.hid (fun W1 : World => markedLetters_nil W1)
  go_enter Try.func20, Try.ntmps20
  go_upto_region 29 with (first
    | (go_at_call 27; (with_reducible refine (stillTexts_nil g _ (NN.at_ (by first | exact N3.out | exact N2.out | exact N1.out | exact N0.out) 0 (by decide) (by decide) (by decide))).mono ?_); rintro e w5 ⟨rfl, rfl⟩)
    | (go_at_call 36; (with_reducible refine (putTexts_nil g _ (NN.at_ (by first | exact N3.out | exact N2.out | exact N1.out | exact N0.out) 0 (by decide) (by decide) (by decide))).mono ?_); rintro e w5 ⟨rfl, rfl⟩)
    | (go_at_call 41; (with_reducible refine (growTexts_nil g _ (NN.at_ (by first | exact N3.out | exact N2.out | exact N1.out | exact N0.out) 0 (by decide) (by decide) (by decide))).mono ?_); rintro e w5 ⟨rfl, rfl⟩)
    | (go_at_call 28; (with_reducible refine (stillInts_nil g _ (NN.at_ (by first | exact N3.out | exact N2.out | exact N1.out | exact N0.out) 2 (by decide) (by decide) (by decide))).mono ?_); rintro e w5 ⟨rfl, rfl⟩)
    | (go_at_call 37; (with_reducible refine (putInts_nil g _ (NN.at_ (by first | exact N3.out | exact N2.out | exact N1.out | exact N0.out) 2 (by decide) (by decide) (by decide))).mono ?_); rintro e w5 ⟨rfl, rfl⟩)
    | (go_at_call 42; (with_reducible refine (growInts_nil g _ (NN.at_ (by first | exact N3.out | exact N2.out | exact N1.out | exact N0.out) 2 (by decide) (by decide) (by decide))).mono ?_); rintro e w5 ⟨rfl, rfl⟩)
    | (go_at_call 30; (with_reducible refine (stillItems_nil g _ (NN.at_ (by first | exact N3.out | exact N2.out | exact N1.out | exact N0.out) 6 (by decide) (by decide) (by decide))).mono ?_); rintro e w5 ⟨rfl, rfl⟩)
    | (go_at_call 39; (with_reducible refine (putItems_nil g _ (NN.at_ (by first | exact N3.out | exact N2.out | exact N1.out | exact N0.out) 6 (by decide) (by decide) (by decide))).mono ?_); rintro e w5 ⟨rfl, rfl⟩)
    | (go_at_call 44; (with_reducible refine (growItems_nil g _ (NN.at_ (by first | exact N3.out | exact N2.out | exact N1.out | exact N0.out) 6 (by decide) (by decide) (by decide))).mono ?_); rintro e w5 ⟨rfl, rfl⟩)
    | (go_at_call 31; (with_reducible refine (stillOwneds_nil g _ (NN.at_ (by first | exact N3.out | exact N2.out | exact N1.out | exact N0.out) 8 (by decide) (by decide) (by decide))).mono ?_); rintro e w5 ⟨rfl, rfl⟩)
    | (go_at_call 40; (with_reducible refine (putOwneds_nil g _ (NN.at_ (by first | exact N3.out | exact N2.out | exact N1.out | exact N0.out) 8 (by decide) (by decide) (by decide))).mono ?_); rintro e w5 ⟨rfl, rfl⟩)
    | (go_at_call 45; (with_reducible refine (growOwneds_nil g _ (NN.at_ (by first | exact N3.out | exact N2.out | exact N1.out | exact N0.out) 8 (by decide) (by decide) (by decide))).mono ?_); rintro e w5 ⟨rfl, rfl⟩)
    | (go_at_call 32; (with_reducible refine (stillEvents_nil g _ (NN.at_ (by first | exact N3.out | exact N2.out | exact N1.out | exact N0.out) 10 (by decide) (by decide) (by decide))).mono ?_); rintro e w5 ⟨rfl, rfl⟩)
    | (go_at_call 34; (with_reducible refine (putEvents_nil g _ (NN.at_ (by first | exact N3.out | exact N2.out | exact N1.out | exact N0.out) 10 (by decide) (by decide) (by decide))).mono ?_); rintro e w5 ⟨rfl, rfl⟩)
    | (go_at_call 46; (with_reducible refine (growEvents_nil g _ (NN.at_ (by first | exact N3.out | exact N2.out | exact N1.out | exact N0.out) 10 (by decide) (by decide) (by decide))).mono ?_); rintro e w5 ⟨rfl, rfl⟩)
    | (go_at_call 33; (with_reducible refine (stillLetters_nil g _ (NN.at_ (by first | exact N3.out | exact N2.out | exact N1.out | exact N0.out) 12 (by decide) (by decide) (by decide))).mono ?_); rintro e w5 ⟨rfl, rfl⟩)
    | (go_at_call 35; (with_reducible refine (putLetters_nil g _ (NN.at_ (by first | exact N3.out | exact N2.out | exact N1.out | exact N0.out) 12 (by decide) (by decide) (by decide))).mono ?_); rintro e w5 ⟨rfl, rfl⟩)
    | (go_at_call 47; (with_reducible refine (growLetters_nil g _ (NN.at_ (by first | exact N3.out | exact N2.out | exact N1.out | exact N0.out) 12 (by decide) (by decide) (by decide))).mono ?_); rintro e w5 ⟨rfl, rfl⟩)
    | (go_at_call 29; (with_reducible refine (CS.out).mono ?_); rintro e w1 ⟨rfl, hb1⟩; have B1 := Lib.hid hb1; clear hb1; have N1 : Hid (NN g w1) := (NN.touch N0.out HLt.out (Touch.ofBelow (F := []) B1.out) (by simp)))
    | (go_at_call 38; (with_reducible refine (CP.out _ B1.out).mono ?_); rintro e w2 ⟨rfl, hbl2, ht2⟩; have N2 : Hid (NN g w2) := hbl2.none; have L2 := Lib.hid hbl2; have T2 := Lib.hid ht2; clear hbl2 ht2)
    | (go_at_call 43; (with_reducible refine (CW.out _ L2.out).mono ?_); rintro e w3 ⟨Ag, cg, ys, hyl, rfl, hgo, hgr, hgm, hgl, hgb, hgt⟩; have N3 : Hid (NN g w3) := hgb.none; have HYL := Lib.hid hyl; have HGO := Lib.hid hgo; have HGR := Lib.hid hgr; have HGM := Lib.hid hgm; have HGL := Lib.hid hgl; have HGB := Lib.hid hgb; have HGT := Lib.hid hgt; clear hyl hgo hgr hgm hgl hgb hgt))
  have CG : Hid (∀ w', Below w3.heap.size w3 w' → Calls Try.prog 50 #[.slice Ag fs.length cg] w' fun e w9 => e = .returned (.bool true) ∧ Below w'.heap.size w' w9) :=
    fun w' h => marked_call HYL.out w' (own_step HGO.out h) (fun x hx => (HGR.out x hx).touch (Touch.ofBelow (F := []) h) (by simp)) HGM.out HGL.out (by rw [HFN.out]; exact HE.out)
  have CO : Hid (∀ w', Below w3.heap.size w3 w' → Calls Try.prog 50 #[.slice A6 n d6] w' fun e w9 => e = .returned (.bool true) ∧ Below w'.heap.size w' w9) :=
    fun w' h => marked_call (b := 0) HFN.out w' (by have z := own_step HGB.out.own6 h; rw [HFN.out] at z; exact z) (fun x hx => (HGB.out.rows x hx).touch (Touch.ofBelow (F := []) h) (by simp)) HFM.out (fun x hx => Nat.le_trans (HFL.out x hx) (by omega)) HE.out
  obtain ⟨wb, rfl⟩ : ∃ wb : World, wb = w3 := ⟨_, rfl⟩
  have HSS : Hid (∀ w', Below wb.heap.size wb w' → Below wb.heap.size wb w' ∧ w'.cell? ⟨g, 0, none⟩ = some (.slice none 0 0) ∧ w'.cell? ⟨g, 2, none⟩ = some (.slice none 0 0) ∧ w'.cell? ⟨g, 6, none⟩ = some (.slice none 0 0) ∧ w'.cell? ⟨g, 4, none⟩ = some (.slice A6 n d6) ∧ w'.cell? ⟨g, 8, none⟩ = some (.slice none 0 0) ∧ w'.cell? ⟨g, 10, none⟩ = some (.slice none 0 0) ∧ w'.cell? ⟨g, 12, none⟩ = some (.slice none 0 0)) := fun w' h =>
    have z := NN.touch N3.out HGB.out.lt (Touch.ofBelow (F := []) h) (by simp)
    ⟨h, z 0 (by decide) (by decide) (by decide), z 2 (by decide) (by decide) (by decide), z 6 (by decide) (by decide) (by decide), (h.cell (p := ⟨g, 4, none⟩) HGB.out.lt).trans HGB.out.c6, z 8 (by decide) (by decide) (by decide), z 10 (by decide) (by decide) (by decide), z 12 (by decide) (by decide) (by decide)⟩
  obtain ⟨p0, p2, p4, p6, p8, p10, p12⟩ := (HSS.out _ (Below.refl _ _)).2
  go_wp2_with (first
    | (go_at_call 48; (with_reducible refine (markedNilTexts.out _).mono ?_); rintro e w5 ⟨rfl, rfl⟩)
    | (go_at_call 49; (with_reducible refine (markedNilInts.out _).mono ?_); rintro e w5 ⟨rfl, rfl⟩)
    | (go_at_call 51; (with_reducible refine (markedNilItems.out _).mono ?_); rintro e w5 ⟨rfl, rfl⟩)
    | (go_at_call 52; (with_reducible refine (markedNilOwneds.out _).mono ?_); rintro e w5 ⟨rfl, rfl⟩)
    | (go_at_call 53; (with_reducible refine (markedNilEvents.out _).mono ?_); rintro e w5 ⟨rfl, rfl⟩)
    | (go_at_call 54; (with_reducible refine (markedNilLetters.out _).mono ?_); rintro e w5 ⟨rfl, rfl⟩)
    | (go_at_call 50; (with_reducible refine (CG.out _ (Below.refl _ _)).mono ?_); rintro e w5 ⟨rfl, hb5⟩; have HB5 := Lib.hid hb5; clear hb5; obtain ⟨p0, p2, p4, p6, p8, p10, p12⟩ := (HSS.out _ HB5.out).2)
    | (go_at_call 50; (with_reducible refine (CO.out _ HB5.out).mono ?_); rintro e w6 ⟨rfl, hb6⟩; have HB6 := Lib.hid (acc HB5.out hb6); clear hb6; obtain ⟨p0, p2, p4, p6, p8, p10, p12⟩ := (HSS.out _ HB6.out).2))
  go_ret
  exact ⟨rfl, (((Touch.ofBelow (F := fps es) B1.out).trans T2.out (fun x hx => .inl hx)).trans (HFP.out ▸ HGT.out) (fun x hx => .inl hx)).trans (Touch.ofBelow (F := fps es) HB6.out) (fun x hx => .inl hx)⟩
end Go.Proofs.Ytfpoapmbpbkibaa.Pb
