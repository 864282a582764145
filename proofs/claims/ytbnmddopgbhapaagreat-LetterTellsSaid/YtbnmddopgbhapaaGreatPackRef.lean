/-
  The walks of the document's own Reader: take, Num, Text, Wide.
-/
import Derived.Test.YtbnmddopgbhapaaGreatPackFacts
import Derived.Deep.QuietTactic
import Derived.BigQuiet
import Derived.Deep.DeepCutAuto
namespace Go.Proofs.YtbnmddopgbhapaaGreat
open Go.RowKit

/-- the document's reader: what is left, or none: it is Bad -/
def RfO (W : World) (g : Nat) (o : Option ByteArray) : Prop := match o with
  | some s => Rq W g s false
  | none => ∃ s, Rq W g s true
theorem RfO.gr {W W1 : World} {g k : Nat} {o : Option ByteArray} (h : RfO W g o) (hg : Gr k W W1) (hk : g ≠ k) : RfO W1 g o := by
  cases o with
  | none => obtain ⟨s, h⟩ := h; exact ⟨s, h.other hg hk⟩
  | some s => exact Rq.other h hg hk
theorem RfO.drewN {W : World} {g : Nat} {o : Option ByteArray} (h : RfO W g o) (n : Nat) : RfO (W.drewN n) g o := by
  cases o with
  | none => exact h
  | some s => exact h
theorem RfO.drew {W : World} {g : Nat} {o : Option ByteArray} (h : RfO W g o) : RfO W.drew g o := by
  cases o with
  | none => exact h
  | some s => exact h
theorem Gr.drewN {g : Nat} {a b : World} (h : Gr g a b) (n : Nat) : Gr g a (b.drewN n) := ⟨h.os, h.tape, h.output, h.size, h.block⟩
def zerosB (n : Nat) : ByteArray := txt (List.replicate n 0)
/-- the bytes that it takes -/
def takeO (o : Option ByteArray) (n : Nat) : ByteArray := match o with
  | some s => if n ≤ s.size then s.extract 0 n else zerosB n
  | none => zerosB n
theorem zerosB_size (n : Nat) : (zerosB n).size = n := by rw [zerosB, txt_size, List.length_replicate]
theorem takeO_size (o : Option ByteArray) (n : Nat) : (takeO o n).size = n := by
  unfold takeO
  split
  · split
    · rename_i h
      rw [← data_length, extract_first, List.length_take, data_length]; omega
    · exact zerosB_size n
  · exact zerosB_size n
theorem accN_zeros (n : Nat) : ∀ k, accN (List.replicate n (0 : UInt8)) k = 0
  | 0 => rfl
  | k + 1 => by
    rw [accN, accN_zeros n k, byteAt, List.getElem?_replicate]
    split <;> rfl
theorem takeO_acc (o : Option ByteArray) (n : Nat) : accN (takeO o n).data.toList n = numO o n := by
  cases o with
  | none => exact (by rw [takeO, zerosB, txt_data, accN_zeros]; rfl)
  | some s =>
    by_cases h : n ≤ s.size
    · simp only [takeO, numO, if_pos h]
      rw [extract_first, accN_take _ _ _ (Nat.le_refl n)]
    · simp only [takeO, numO, if_neg h]
      rw [zerosB, txt_data, accN_zeros]

set_option maxHeartbeats 1000000 in
theorem take_yes (g n : Nat) (s : ByteArray) (W : World) (hR : Rq W g s false) (hn : n ≤ s.size) (_hs : s.size ≤ 9223372036854775807) :
    Calls Tryz.prog 87 #[.pointer (some ⟨g, 0, none⟩), .int .i64 (n : Nat)] W fun e w' => e = .returned (.string (s.extract 0 n)) ∧ Rq w' g (s.extract n s.size) false ∧ Gr g W w' := by
  have HR := Lib.hid hR
  obtain ⟨q1, q2, q3, q4, q5⟩ := hR
  have hd : decide (s.size < n) = false := by simp; omega
  go_enter Tryz.func87, Tryz.ntmps87
  go_wp2
  go_ret
  exact ⟨rfl, HR.out.set0 _, (Gr.refl g W).set 0 _⟩
set_option maxHeartbeats 1000000 in
theorem take_no (g n : Nat) (s : ByteArray) (b : Bool) (W : World) (hR : Rq W g s b) (hn : b = false → s.size < n) (h1 : n ≤ 100000) :
    Calls Tryz.prog 87 #[.pointer (some ⟨g, 0, none⟩), .int .i64 (n : Nat)] W fun e w' => e = .returned (.string (zerosB n)) ∧ Rq w' g s true ∧ Gr g W w' := by
  have HR := Lib.hid hR
  have hmk := run_make_bytes n h1 (W.setCell ⟨g, 1, none⟩ (.bool true))
  have hcv := run_conv_zeros n h1 (W.setCell ⟨g, 1, none⟩ (.bool true)) W.heap.size (by simp)
  simp only [World.size_setCell] at hmk
  obtain ⟨q1, q2, q3, q4, q5⟩ := hR
  cases b
  · have hd : decide (s.size < n) = true := by simp; exact hn rfl
    clear hn
    go_enter Tryz.func87, Tryz.ntmps87
    go_wp2
    go_ret
    exact ⟨rfl, (HR.out.set1 _).alloc _, ((Gr.refl g W).set 1 _).alloc _⟩
  · clear hn
    go_enter Tryz.func87, Tryz.ntmps87
    go_wp2
    go_ret
    exact ⟨rfl, (HR.out.set1 _).alloc _, ((Gr.refl g W).set 1 _).alloc _⟩
theorem take_o (g n : Nat) (o : Option ByteArray) (W : World) (hR : RfO W g o) (hs : sizeO o ≤ 9223372036854775807) (h1 : n ≤ 100000) :
    Calls Tryz.prog 87 #[.pointer (some ⟨g, 0, none⟩), .int .i64 (n : Nat)] W fun e w' => e = .returned (.string (takeO o n)) ∧ RfO w' g (restO o n) ∧ Gr g W w' := by
  cases o with
  | none =>
    obtain ⟨s, hR⟩ := hR
    refine (take_no g n s true W hR (fun h => by cases h) h1).mono ?_
    rintro e w1 ⟨rfl, hR1, hg⟩
    exact ⟨rfl, ⟨s, hR1⟩, hg⟩
  | some s =>
    by_cases hn : n ≤ s.size
    · refine (take_yes g n s W hR hn hs).mono ?_
      rintro e w1 ⟨rfl, hR1, hg⟩
      refine ⟨?_, ?_, hg⟩
      · simp only [takeO, if_pos hn]
      · simp only [restO, if_pos hn]; exact hR1
    · refine (take_no g n s false W hR (fun _ => by omega) h1).mono ?_
      rintro e w1 ⟨rfl, hR1, hg⟩
      refine ⟨?_, ?_, hg⟩
      · simp only [takeO, if_neg hn]
      · simp only [restO, if_neg hn]; exact ⟨s, hR1⟩

theorem take_1 (g : Nat) (o : Option ByteArray) (W : World) (hR : RfO W g o) (hs : sizeO o ≤ 9223372036854775807) :
    Calls Tryz.prog 87 #[.pointer (some ⟨g, 0, none⟩), .int .i64 1] W fun e w' => e = .returned (.string (takeO o 1)) ∧ RfO w' g (restO o 1) ∧ Gr g W w' := take_o g 1 o W hR hs (by omega)
theorem take_2 (g : Nat) (o : Option ByteArray) (W : World) (hR : RfO W g o) (hs : sizeO o ≤ 9223372036854775807) :
    Calls Tryz.prog 87 #[.pointer (some ⟨g, 0, none⟩), .int .i64 2] W fun e w' => e = .returned (.string (takeO o 2)) ∧ RfO w' g (restO o 2) ∧ Gr g W w' := take_o g 2 o W hR hs (by omega)
theorem take_8 (g : Nat) (o : Option ByteArray) (W : World) (hR : RfO W g o) (hs : sizeO o ≤ 9223372036854775807) :
    Calls Tryz.prog 87 #[.pointer (some ⟨g, 0, none⟩), .int .i64 8] W fun e w' => e = .returned (.string (takeO o 8)) ∧ RfO w' g (restO o 8) ∧ Gr g W w' := take_o g 8 o W hR hs (by omega)
theorem two_bytes (S : ByteArray) (h0 : 0 < S.size) (h1 : 1 < S.size) : ((S[0]).toNat : Int) * (256 : Int) + ((S[1]).toNat : Int) = ((accN S.data.toList 2 : Nat) : Int) := by
  have e : accN S.data.toList 2 = (0 * 256 + byteAt S.data.toList 0) * 256 + byteAt S.data.toList 1 := rfl
  rw [e, byteAt_get (by rw [data_length]; omega), byteAt_get (by rw [data_length]; omega)]
  show _ = (((0 * 256 + (S[0]).toNat) * 256 + (S[1]).toNat : Nat) : Int)
  omega
theorem one_byte (S : ByteArray) (h0 : 0 < S.size) : (S[0]).toNat = accN S.data.toList 1 := by
  have e : accN S.data.toList 1 = 0 * 256 + byteAt S.data.toList 0 := rfl
  rw [e, byteAt_get (by rw [data_length]; omega)]
  show _ = 0 * 256 + (S[0]).toNat
  omega

set_option maxHeartbeats 1000000 in
theorem fnum_any (g : Nat) (o : Option ByteArray) (W : World) (hR : RfO W g o) (hs : sizeO o ≤ 9223372036854775807) :
    Calls Tryz.prog 68 #[.pointer (some ⟨g, 0, none⟩)] W fun e w' => e = .returned (.int .i64 (numO o 2 : Nat)) ∧ RfO w' g (restO o 2) ∧ Gr g W w' := by
  have C := Lib.hid (take_2 g o W hR hs)
  have hz := takeO_size o 2
  have hz0 : 0 < (takeO o 2).size := by omega
  have hz1 : 1 < (takeO o 2).size := by omega
  have H2 := Lib.hid (two_bytes (takeO o 2) hz0 hz1)
  rw [takeO_acc] at H2
  clear hR hs
  generalize takeO o 2 = S at *
  generalize numO o 2 = v at *
  generalize restO o 2 = r at *
  clear hz
  have hy0 := (S[0]).toNat_lt
  have hy1 := (S[1]).toNat_lt
  go_enter Tryz.func68, Tryz.ntmps68
  go_wp2_with (go_at_call 87; ((with_reducible refine (C.out).mono ?_); rintro e w1 ⟨rfl, hR1, hgr⟩; have HR1 := Lib.hid hR1; have Hgr := Lib.hid hgr; clear hR1 hgr))
  have hw0 : IntKind.i64.wrap ((S[0]).toNat : Int) = ((S[0]).toNat : Int) := by rw [IntKind.wrap_i64]; omega
  have hw1 : IntKind.i64.wrap ((S[1]).toNat : Int) = ((S[1]).toNat : Int) := by rw [IntKind.wrap_i64]; omega
  have hw2 : IntKind.i64.wrap (((S[0]).toNat : Int) * 256) = ((S[0]).toNat : Int) * 256 := by rw [IntKind.wrap_i64]; omega
  have hw3 : IntKind.i64.wrap (((S[0]).toNat : Int) * 256 + ((S[1]).toNat : Int)) = ((S[0]).toNat : Int) * 256 + ((S[1]).toNat : Int) := by rw [IntKind.wrap_i64]; omega
  have hi0 : (0 : Int) < (S.size : Int) := by omega
  have hi1 : (1 : Int) < (S.size : Int) := by omega
  go_quiet (fail)
  clear hw0 hw1 hw2 hw3
  go_wp2
  go_ret
  exact ⟨by rw [← H2.out]; rfl, HR1.out.drewN _, Hgr.out.drewN _⟩

theorem ref_text (o : Option ByteArray) : textO o = match restT o with
  | some _ => takeO (restO o 1) (numO o 1)
  | none => ByteArray.empty := by
  unfold textO restT
  generalize restO o 1 = r
  generalize numO o 1 = n
  cases r with
  | none => rfl
  | some s =>
    by_cases h : n ≤ s.size
    · simp only [partO, restO, takeO, if_pos h]
    · simp only [partO, restO, if_neg h]
set_option maxHeartbeats 1000000 in
theorem ftext_any (g : Nat) (o : Option ByteArray) (W : World) (hR : RfO W g o) (hs : sizeO o ≤ 9223372036854775807) :
    Calls Tryz.prog 71 #[.pointer (some ⟨g, 0, none⟩)] W fun e w' => e = .returned (.string (textO o)) ∧ RfO w' g (restT o) ∧ Gr g W w' := by
  have C := Lib.hid (take_1 g o W hR hs)
  have hz := takeO_size o 1
  have hz0 : 0 < (takeO o 1).size := by omega
  have h2 := one_byte (takeO o 1) hz0
  rw [takeO_acc] at h2
  have hl : numO o 1 < 256 := numO_lt o 1
  have D := Lib.hid (fun W1 h1 => take_o g (numO o 1) (restO o 1) W1 h1 (Nat.le_trans (sizeO_rest o 1) hs) (by omega))
  have HT := Lib.hid (ref_text o)
  have HV := Lib.hid (rfl : restT o = restO (restO o 1) (numO o 1))
  have H2 := Lib.hid h2
  clear hR hs h2 hz
  generalize takeO o 1 = S at *
  generalize takeO (restO o 1) (numO o 1) = T at *
  have D' : Hid (∀ W1, RfO W1 g (restO o 1) → Calls Tryz.prog 87 #[.pointer (some ⟨g, 0, none⟩), .int .i64 ((S[0]).toNat : Int)] W1 fun e w' => e = .returned (.string T) ∧ RfO w' g (restT o) ∧ Gr g W1 w') := by
    rw [H2.out, HV.out]; exact D.out
  clear D HV
  generalize restT o = p at *
  generalize restO o 1 = r at *
  have hy0 := (S[0]).toNat_lt
  go_enter Tryz.func71, Tryz.ntmps71
  go_wp2_with (go_at_call 87; ((with_reducible refine (C.out).mono ?_); rintro e w1 ⟨rfl, hR1, hgr⟩; have HR1 := Lib.hid hR1; have Hgr := Lib.hid hgr; clear hR1 hgr))
  refine (D'.out _ HR1.out).mono ?_
  rintro e w2 ⟨rfl, hR2, hgr2⟩
  have Hgr2 := Lib.hid (Hgr.out.trans hgr2)
  have HR2 := Lib.hid hR2
  clear hgr2 hR2 HR1 Hgr
  have HT' := HT.out
  clear HT
  cases p with
  | none =>
    have HTx := Lib.hid HT'
    clear HT'
    obtain ⟨s, q1, q2, q3, q4, q5⟩ := HR2.out
    go_wp2
    go_ret
    exact ⟨by rw [HTx.out]; rfl, HR2.out, Hgr2.out⟩
  | some s =>
    have HTx := Lib.hid HT'
    clear HT'
    obtain ⟨q1, q2, q3, q4, q5⟩ := HR2.out
    go_wp2
    go_ret
    exact ⟨by rw [HTx.out]; rfl, HR2.out, Hgr2.out⟩

set_option maxHeartbeats 1000000 in
theorem fwide_any (g : Nat) (o : Option ByteArray) (W : World) (hR : RfO W g o) (hs : sizeO o ≤ 9223372036854775807) :
    Calls Tryz.prog 69 #[.pointer (some ⟨g, 0, none⟩)] W fun e w' => e = .returned (.int .u64 (numO o 8 : Nat)) ∧ RfO w' g (restO o 8) ∧ Gr g W w' := by
  have C := Lib.hid (take_8 g o W hR hs)
  have hz := takeO_size o 8
  have D := Lib.hid (fun W1 => refAddr_any (takeO o 8) W1 (by rw [hz]; unfold maxLen; omega))
  have HA := Lib.hid (show addrN (takeO o 8) = numO o 8 from takeO_acc o 8)
  have HN := Lib.hid (fun h : restO o 8 = none => (show numO o 8 = 0 by
    cases o with
    | none => rfl
    | some s =>
      by_cases h8 : 8 ≤ s.size
      · simp only [restO, if_pos h8] at h; cases h
      · simp only [numO, if_neg h8]))
  clear hR hs hz
  generalize takeO o 8 = S at *
  generalize numO o 8 = v at *
  generalize restO o 8 = r at *
  go_enter Tryz.func69, Tryz.ntmps69
  go_upto_region 2 with (go_at_call 87; ((with_reducible refine (C.out).mono ?_); rintro e w1 ⟨rfl, hR1, hgr⟩; have HR1 := Lib.hid hR1; have Hgr := Lib.hid hgr; clear hR1 hgr))
  cases r with
  | none =>
    have HV := Lib.hid (HN.out rfl)
    obtain ⟨s, q1, q2, q3, q4, q5⟩ := HR1.out
    go_wp2
    go_ret
    exact ⟨by rw [HV.out]; rfl, HR1.out, Hgr.out⟩
  | some s =>
    obtain ⟨q1, q2, q3, q4, q5⟩ := HR1.out
    go_wp2_with (go_at_call 88; ((with_reducible refine (D.out _).mono ?_); rintro e w2 ⟨rfl, rfl⟩))
    go_ret
    exact ⟨by rw [← HA.out]; rfl, HR1.out, Hgr.out⟩
end Go.Proofs.YtbnmddopgbhapaaGreat
