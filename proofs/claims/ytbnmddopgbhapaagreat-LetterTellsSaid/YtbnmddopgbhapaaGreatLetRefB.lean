/-
  The document's items and Put, walked.
-/
import Derived.Test.YtbnmddopgbhapaaGreatLetRefA
import Derived.Test.YtbnmddopgbhapaaGreatLetGets
import Derived.Test.YtbnmddopgbhapaaGreatLetItemsPut
import Derived.Deep.RegionHeld3
namespace Go.Proofs.YtbnmddopgbhapaaGreat
open Go.RowKit

def NumOk (v : Int) : Prop := 0 ≤ v ∧ v ≤ 65535
def TxtOk (s : ByteArray) : Prop := s.size ≤ 255
theorem keepB {wb W W1 : World} {A : World → Prop} (HS : ∀ w', Below wb.heap.size wb w' → Below wb.heap.size wb w' ∧ A w') (h : Below wb.heap.size wb W ∧ A W) (hb : Below W.heap.size W W1) : Below wb.heap.size wb W1 ∧ A W1 :=
  HS _ (h.1.trans (hb.mono h.1.size))
theorem keepE {wb W W1 : World} {A : World → Prop} (_HS : ∀ w', Below wb.heap.size wb w' → Below wb.heap.size wb w' ∧ A w') (h : Below wb.heap.size wb W ∧ A W) (hb : W = W1) : Below wb.heap.size wb W1 ∧ A W1 := hb ▸ h
theorem okT {s : ByteArray} (h : okText s = true) : TxtOk s := by
  show s.size ≤ 255
  exact of_decide_eq_true h
theorem numT_sz (v : Int) : (numT v).size ≤ 2 := by
  unfold numT
  split
  · rw [txt_size, wideN_length]; exact Nat.le_refl _
  · exact Nat.zero_le _
theorem textT_sz (s : ByteArray) : (textT s).size ≤ 256 := by
  cases h : okText s with
  | true =>
    have := of_decide_eq_true h
    rw [textT_size s h]; omega
  | false =>
    rw [textT, h]
    exact Nat.zero_le _
theorem wideT_sz (x : Nat) : (txt (wideN 8 x)).size ≤ 8 := by rw [txt_size, wideN_length]; exact Nat.le_refl _
theorem itemsS_sz (l : List Item) : ∀ i, i ≤ l.length → (itemsS l i).size ≤ 2 + 512 * i
  | 0, _ => by rw [itemsS_zero]; have := numT_sz l.length; omega
  | i + 1, h => by
    have ih := itemsS_sz l i (by omega)
    have h1 := textT_sz (l[i]'(by omega)).1
    have h2 := textT_sz (l[i]'(by omega)).2
    rw [itemsS_succ l i (by omega), size_append, size_append]
    omega
theorem itemsT_sz (l : List Item) (h : linesB l = true) : (itemsT l).size ≤ 20482 := by
  rw [linesB, Bool.and_eq_true] at h
  have h2 := of_decide_eq_true h.2
  have := itemsS_sz l l.length (Nat.le_refl _)
  unfold itemsT
  omega
theorem finB {w wb W : World} {A : Prop} (hB : Below w.heap.size w wb) (h : Below wb.heap.size wb W ∧ A) : Below w.heap.size w W := acc hB h.1
theorem inB {w wb W : World} {A : Prop} (hB : Below w.heap.size w wb) (h : Below wb.heap.size wb W ∧ A) : Below w.heap.size w W := acc hB h.1
theorem dnum_ok (v : Int) (h : NumOk v) (W : World) : Calls Tryz.prog 24 #[.int .i64 v] W fun e w' => e = .returned (.string (numT v)) ∧ Below W.heap.size W w' := dnum_any v W h.1 h.2
theorem dtxt_ok (s : ByteArray) (h : TxtOk s) (W : World) : Calls Tryz.prog 27 #[.string s] W fun e w' => e = .returned (.string (textT s)) ∧ Below W.heap.size W w' := refText_any s W h
set_option maxRecDepth 20000 in
set_option maxHeartbeats 4000000 in
theorem ditems_any (ls : List Item) (S : Value) (W : World) (hS : SlAt W S ls) (hB : linesB ls = true) :
    Calls Tryz.prog 26 #[S] W fun e w' => e = .returned (.string (itemsT ls)) ∧ Below W.heap.size W w' := by
  obtain ⟨A, c, rfl, x1, x2, hA⟩ := hS
  have hl := hB
  rw [linesB, Bool.and_eq_true] at hl
  have hl2 := of_decide_eq_true hl.2
  have HL : Hid (∀ j (h : j < ls.length), TxtOk (ls[j]).1 ∧ TxtOk (ls[j]).2) := fun j h => by
    have := List.all_eq_true.1 hl.1 _ (List.getElem_mem h)
    rw [lineB, Bool.and_eq_true] at this
    exact ⟨okT this.1, okT this.2⟩
  have HSZ : Hid (∀ i, i ≤ ls.length → (itemsS ls i).size ≤ 2 + 512 * i) := itemsS_sz ls
  obtain ⟨n, hn⟩ : ∃ n, ls.length = n := ⟨_, rfl⟩
  have CN := Lib.hid (dnum_ok (n : Int) ⟨by omega, by omega⟩)
  have CT := Lib.hid dtxt_ok
  have HN := Lib.hid hn
  have HA := Lib.hid hA
  have HZ : Hid (itemsS ls 0 = numT (n : Int)) := hn ▸ itemsS_zero ls
  have HE : Hid (itemsT ls = itemsS ls n) := hn ▸ rfl
  rw [hn] at hl2 x1
  rw [hn]
  clear hA hB hn hl
  go_enter Tryz.func26, Tryz.ntmps26
  go_wp2_with (go_at_call 24; ((with_reducible refine (CN.out _).mono ?_); rintro e w1 ⟨rfl, hb1⟩; have HB1 := Lib.hid hb1; clear hb1))
  go_loopg [3, 4] (n + 1) (fun z s3 s4 wx => ∃ (j : Nat), j + z = n + 1 ∧ j ≤ n ∧ s3 = .string (itemsS ls j) ∧ s4 = .int .i64 (j : Nat) ∧ Hid (Below W.heap.size W wx))
  case atStart => exact ⟨0, by omega, by omega, by rw [HZ.out], rfl, HB1.out⟩
  case round =>
    obtain ⟨j, hjz, hjn, rfl, rfl, HB⟩ := hrel
    by_cases hlt : j < n
    · obtain ⟨b, off, hAt⟩ := HA.out
      have hjl : j < ls.length := by rw [HN.out]; exact hlt
      obtain ⟨eA, hbl, y0, y1⟩ := hAt j hjl
      subst eA
      have HX := Lib.hid (itemsS_succ ls j hjl)
      obtain ⟨t1, t2⟩ := HL.out j hjl
      have g0 := HSZ.out j (by omega)
      have g1 := textT_sz (ls[j]).1
      have g2 := textT_sz (ls[j]).2
      generalize (ls[j]).1 = u at *
      generalize (ls[j]).2 = v at *
      generalize itemsS ls j = P at *
      have e1 : ¬ (9223372036854775807 < P.size + (textT u).size) := by omega
      have e2 : ¬ (9223372036854775807 < P.size + (textT u).size + (textT v).size) := by omega
      have e3 : ¬ (9223372036854775807 < (P ++ textT u).size + (textT v).size) := by rw [size_append]; omega
      clear g0 g1 g2
      have z0 := (HB.out.cell (p := ⟨b, off + j * 2, none⟩) hbl).trans y0
      have z1 := (HB.out.cell (p := ⟨b, off + j * 2 + 1, none⟩) hbl).trans y1
      have hblr : b < wr.heap.size := Nat.lt_of_lt_of_le hbl HB.out.size
      have HSS : Hid (∀ w', Below wr.heap.size wr w' → Below wr.heap.size wr w' ∧ (w'.cell? ⟨b, off + j * 2, none⟩ = some (.string u) ∧ w'.cell? ⟨b, off + j * 2 + 1, none⟩ = some (.string v))) := fun w' h => ⟨h, (h.cell (p := ⟨b, off + j * 2, none⟩) hblr).trans z0, (h.cell (p := ⟨b, off + j * 2 + 1, none⟩) hblr).trans z1⟩
      have bj : decide ((j : Int) < (n : Int)) = true := by simp; omega
      have bi : (j : Int) < (n : Int) := by omega
      have C1 := Lib.hid (CT.out u t1)
      have C2 := Lib.hid (CT.out v t2)
      clear hAt y0 y1 t1 t2 z0 z1
      go_wp2
      go_region_held3 (fun w' => Below wr.heap.size wr w' ∧ (w'.cell? ⟨b, off + j * 2, none⟩ = some (.string u) ∧ w'.cell? ⟨b, off + j * 2 + 1, none⟩ = some (.string v))) ((first | exact HSS.out _ ((Below.refl _ _).drew) | exact keepB HSS.out (by assumption) (by assumption)))
        (first | (go_at_call 27; (with_reducible refine (C1.out _).mono ?_); rintro e w9 ⟨rfl, hb9⟩) | (go_at_call 27; (with_reducible refine (C2.out _).mono ?_); rintro e w9 ⟨rfl, hb9⟩))
      all_goals
        go_wp2
        go_roundg (gk - 1)
        case measure => omega
        case rel => exact ⟨j + 1, by omega, by omega, by rw [HX.out], by go_num, finB HB.out (by assumption)⟩
    · obtain rfl : j = n := by omega
      have bj : decide ((j : Int) < (j : Int)) = false := by simp
      go_wp2
      go_ret
      exact ⟨by rw [HE.out]; rfl, HB.out⟩
end Go.Proofs.YtbnmddopgbhapaaGreat
