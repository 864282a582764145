/-
  The walks of package pack's Reader: number, Num, Text, Wide.
-/
import Derived.Test.YtbnmddopgbhapaaGreatPackRead
namespace Go.Proofs.YtbnmddopgbhapaaGreat
open Go.RowKit

/-- a reader of package pack: what is left, or none: it is Bad -/
def RdO (W : World) (g : Nat) (o : Option ByteArray) : Prop := Rq W g (o.getD ByteArray.empty) o.isSome
/-- the number that it reads of n bytes -/
def numO (o : Option ByteArray) (n : Nat) : Nat := match o with
  | some s => if n ≤ s.size then accN s.data.toList n else 0
  | none => 0
/-- what is left behind n bytes -/
def restO (o : Option ByteArray) (n : Nat) : Option ByteArray := match o with
  | some s => if n ≤ s.size then some (s.extract n s.size) else none
  | none => none
theorem numO_lt (o : Option ByteArray) (n : Nat) : numO o n < 256 ^ n := by
  have hp : 0 < 256 ^ n := Nat.pow_pos (by omega)
  unfold numO
  split
  · split
    · exact accN_lt _ _
    · exact hp
  · exact hp
theorem own_some {W : World} {base e n c : Nat} {A : Option Addr} {xs : List Value} (h : W.ownsRow base e 1 (.slice A n c) n xs) (hn : 1 ≤ n) : ∃ q, A = some ⟨q, 0, none⟩ := by
  rcases h.2 with ⟨_, h1⟩ | ⟨g, cap, cur, h0, _⟩
  · omega
  · injection h0 with h1 _ _
    exact ⟨g, h1⟩
theorem or_byte {a b : Nat} (ha : a < 72057594037927936) (hb : b < 256) : bits .or .u64 ((a : Int) * 256) (IntKind.u64.wrap (b : Int)) = ((a * 256 + b : Nat) : Int) := by
  have e1 : IntKind.u64.wrap (b : Int) = (b : Int) := by rw [IntKind.wrap_u64]; omega
  rw [e1, show (a : Int) * 256 = ((a * 256 : Nat) : Int) by simp, u64_or_nat _ _ (by omega) (by omega)]
  congr 1
  have h := or_step (a := a) (b := b) (k := 7) (by omega) hb
  simp only [Nat.reduceSub, Nat.pow_one, Nat.mul_zero, Nat.pow_zero, Nat.mul_one] at h
  exact h

set_option maxHeartbeats 1000000 in
theorem number_some (g n : Nat) (s : ByteArray) (W : World) (hR : Rq W g s true) (hs : s.size ≤ 9223372036854775807) (hn : n ≤ s.size) (h1 : 1 ≤ n) (h8 : n ≤ 8) :
    Calls Tryz.prog 113 #[.pointer (some ⟨g, 0, none⟩), .int .i64 (n : Nat)] W fun e w' => e = .returned (.int .u64 (accN s.data.toList n : Nat)) ∧ Rq w' g (s.extract n s.size) true ∧ Gr g W w' := by
  have C := Lib.hid (part_some g n s W hR hs hn (by omega))
  have hgW := hR.1
  clear hR
  go_enter Tryz.func113, Tryz.ntmps113
  go_wp2_with (go_at_call 115; ((with_reducible refine (C.out).mono ?_); rintro e w1 ⟨A, c, rfl, hown, hR1, hgr⟩))
  obtain ⟨q, rfl⟩ := own_some hown h1
  have HR1 := Lib.hid hR1
  have Hgr := Lib.hid hgr
  have Hown := Lib.hid hown
  clear hR1 hgr hown
  go_loopg [5, 12] 9 (fun gh s5 s12 wx => ∃ (k v : Nat), k + gh = 9 ∧ k ≤ n ∧ s12 = .int .i64 k ∧ s5 = .int .u64 (v : Nat) ∧ Hid (v = accN s.data.toList k) ∧ w1 = wx)
  case atStart => exact ⟨0, 0, by omega, by omega, rfl, rfl, rfl, rfl⟩
  case round =>
    obtain ⟨k, v, hkg, hk, rfl, rfl, HV, rfl⟩ := hrel
    by_cases hlt : k < n
    · have hv : v < 72057594037927936 := by
        have h1 := accN_lt s.data.toList k
        have h3 : (256 : Nat) ^ k ≤ 256 ^ 7 := Nat.pow_le_pow_right (by omega) (by omega)
        have := HV.out
        omega
      have hc := Hown.out.cellAt k (by omega)
      have hks : k < s.size := by omega
      rw [List.getElem?_map, List.getElem?_take_of_lt hlt, get_data s k hks] at hc
      have hc' : w1.cell? ⟨q, k, none⟩ = some (.int .u8 (s[k].toNat : Int)) := hc
      clear hc
      have HB := Lib.hid (or_byte hv (s[k].toNat_lt))
      go_wp2
      go_roundg (gk - 1)
      case measure => omega
      case rel => exact ⟨k + 1, v * 256 + s[k].toNat, by omega, by omega, by go_num, by exact congrArg (Value.int .u64) HB.out, by show _ = _; rw [accN, HV.out, byteAt_get (by rw [data_length]; exact hks)]; rfl, rfl⟩
    · obtain rfl : k = n := by omega
      go_wp2
      go_ret
      exact ⟨by obtain rfl := HV.out; rfl, HR1.out, Hgr.out⟩

set_option maxHeartbeats 1000000 in
theorem number_short (g n : Nat) (s : ByteArray) (W : World) (hR : Rq W g s true) (hs : s.size ≤ 9223372036854775807) (hn : s.size < n) (h8 : n ≤ 8) :
    Calls Tryz.prog 113 #[.pointer (some ⟨g, 0, none⟩), .int .i64 (n : Nat)] W fun e w' => e = .returned (.int .u64 0) ∧ Rq w' g ByteArray.empty false ∧ Gr g W w' := by
  have C := Lib.hid (part_short g n s W hR hs hn (by omega))
  clear hR
  go_enter Tryz.func113, Tryz.ntmps113
  go_wp2_with (go_at_call 115; ((with_reducible refine (C.out).mono ?_); rintro e w1 ⟨rfl, hR1, hgr⟩; have HR1 := Lib.hid hR1; have Hgr := Lib.hid hgr; clear hR1 hgr))
  go_loopg [5, 12] 1 (fun gh s5 s12 wx => s12 = .int .i64 0 ∧ s5 = .int .u64 0 ∧ w1 = wx)
  case atStart => exact ⟨rfl, rfl, rfl⟩
  case round =>
    obtain ⟨rfl, rfl, rfl⟩ := hrel
    go_wp2
    go_ret
    exact ⟨rfl, HR1.out, Hgr.out⟩

set_option maxHeartbeats 1000000 in
theorem number_bad (g n : Nat) (s : ByteArray) (W : World) (hR : Rq W g s false) :
    Calls Tryz.prog 113 #[.pointer (some ⟨g, 0, none⟩), .int .i64 (n : Nat)] W fun e w' => e = .returned (.int .u64 0) ∧ W = w' := by
  have C := Lib.hid (part_bad g n s W hR)
  clear hR
  go_enter Tryz.func113, Tryz.ntmps113
  go_wp2_with (go_at_call 115; ((with_reducible refine (C.out).mono ?_); rintro e w1 ⟨rfl, rfl⟩; obtain ⟨w1, rfl⟩ : ∃ w1 : World, w1 = W := ⟨_, rfl⟩))
  go_loopg [5, 12] 1 (fun gh s5 s12 wx => s12 = .int .i64 0 ∧ s5 = .int .u64 0 ∧ w1 = wx)
  case atStart => exact ⟨rfl, rfl, rfl⟩
  case round =>
    obtain ⟨rfl, rfl, rfl⟩ := hrel
    go_wp2
    go_ret
    exact ⟨rfl, rfl⟩

set_option maxHeartbeats 1000000 in
theorem number_nil (n : Nat) (W : World) :
    Calls Tryz.prog 113 #[.pointer none, .int .i64 (n : Nat)] W fun e w' => e = .returned (.int .u64 0) ∧ W = w' := by
  go_enter Tryz.func113, Tryz.ntmps113
  go_wp2_with (go_at_call 115; ((with_reducible refine (part_nil _ _).mono ?_); rintro e w1 ⟨rfl, rfl⟩; obtain ⟨w1, rfl⟩ : ∃ w1 : World, w1 = W := ⟨_, rfl⟩))
  go_loopg [5, 12] 1 (fun gh s5 s12 wx => s12 = .int .i64 0 ∧ s5 = .int .u64 0 ∧ w1 = wx)
  case atStart => exact ⟨rfl, rfl, rfl⟩
  case round =>
    obtain ⟨rfl, rfl, rfl⟩ := hrel
    go_wp2
    go_ret
    exact ⟨rfl, rfl⟩

/-- the bytes that it reads as a part of n -/
def partO (o : Option ByteArray) (n : Nat) : ByteArray := match o with
  | some s => if n ≤ s.size then s.extract 0 n else ByteArray.empty
  | none => ByteArray.empty
theorem extract_first (s : ByteArray) (n : Nat) : (s.extract 0 n).data.toList = s.data.toList.take n := by rw [Lib.extract_data, List.drop_zero]; simp
theorem extract_size (s : ByteArray) (n : Nat) (h : n ≤ s.size) : (s.extract n s.size).size = s.size - n := by
  rw [← data_length, Lib.extract_data, List.length_take, List.length_drop, data_length]; omega
theorem extract_rest (s : ByteArray) (n : Nat) : (s.extract n s.size).data.toList = s.data.toList.drop n := by
  rw [Lib.extract_data, List.take_of_length_le (by rw [List.length_drop, data_length]; omega)]
def sizeO (o : Option ByteArray) : Nat := (o.getD ByteArray.empty).size
theorem sizeO_rest (o : Option ByteArray) (n : Nat) : sizeO (restO o n) ≤ sizeO o := by
  cases o with
  | none => exact Nat.le_refl _
  | some s =>
    unfold restO
    simp only
    split
    · rename_i h; show (s.extract n s.size).size ≤ s.size; rw [extract_size s n h]; omega
    · exact Nat.zero_le _

def OwnPart (W : World) (g : Nat) (o : Option ByteArray) (n : Nat) (e : Ending) (w' : World) : Prop :=
  ∃ (A : Option Addr) (m c : Nat), e = .returned (.slice A m c) ∧ w'.ownsRow W.heap.size 5 1 (.slice A m c) m ((partO o n).data.toList.map cell8) ∧ RdO w' g (restO o n) ∧ Gr g W w'
theorem part_o (g n : Nat) (o : Option ByteArray) (W : World) (hR : RdO W g o) (hs : sizeO o ≤ 9223372036854775807) (h1 : n ≤ 100000) :
    Calls Tryz.prog 115 #[.pointer (some ⟨g, 0, none⟩), .int .i64 (n : Nat)] W (OwnPart W g o n) := by
  cases o with
  | none =>
    refine (part_bad g n _ W hR).mono ?_
    rintro e w1 ⟨rfl, rfl⟩
    exact ⟨none, 0, 0, rfl, World.ownsRow_nil _ _ _ _, hR, Gr.refl _ _⟩
  | some s =>
    by_cases hn : n ≤ s.size
    · refine (part_some g n s W hR hs hn h1).mono ?_
      rintro e w1 ⟨A, c, rfl, hown, hR1, hgr⟩
      refine ⟨A, n, c, rfl, ?_, ?_, hgr⟩
      · rw [partO]; simp only [if_pos hn]; rw [extract_first]; exact hown
      · rw [restO]; simp only [if_pos hn]; exact hR1
    · refine (part_short g n s W hR hs (by omega) h1).mono ?_
      rintro e w1 ⟨rfl, hR1, hgr⟩
      refine ⟨none, 0, 0, rfl, ?_, ?_, hgr⟩
      · rw [partO]; simp only [if_neg hn]; exact World.ownsRow_nil _ _ _ _
      · rw [restO]; simp only [if_neg hn]; exact hR1
theorem number_o (g n : Nat) (o : Option ByteArray) (W : World) (hR : RdO W g o) (hs : sizeO o ≤ 9223372036854775807) (h1 : 1 ≤ n) (h8 : n ≤ 8) :
    Calls Tryz.prog 113 #[.pointer (some ⟨g, 0, none⟩), .int .i64 (n : Nat)] W fun e w' => e = .returned (.int .u64 (numO o n : Nat)) ∧ RdO w' g (restO o n) ∧ Gr g W w' := by
  cases o with
  | none =>
    refine (number_bad g n _ W hR).mono ?_
    rintro e w1 ⟨rfl, rfl⟩
    exact ⟨rfl, hR, Gr.refl _ _⟩
  | some s =>
    by_cases hn : n ≤ s.size
    · refine (number_some g n s W hR hs hn h1 h8).mono ?_
      rintro e w1 ⟨rfl, hR1, hgr⟩
      refine ⟨?_, ?_, hgr⟩
      · rw [numO]; simp only [if_pos hn]
      · rw [restO]; simp only [if_pos hn]; exact hR1
    · refine (number_short g n s W hR hs (by omega) h8).mono ?_
      rintro e w1 ⟨rfl, hR1, hgr⟩
      refine ⟨?_, ?_, hgr⟩
      · rw [numO]; simp only [if_neg hn]; rfl
      · rw [restO]; simp only [if_neg hn]; exact hR1
theorem number_1 (g : Nat) (o : Option ByteArray) (W : World) (hR : RdO W g o) (hs : sizeO o ≤ 9223372036854775807) :
    Calls Tryz.prog 113 #[.pointer (some ⟨g, 0, none⟩), .int .i64 1] W fun e w' => e = .returned (.int .u64 (numO o 1 : Nat)) ∧ RdO w' g (restO o 1) ∧ Gr g W w' := number_o g 1 o W hR hs (by omega) (by omega)
theorem number_2 (g : Nat) (o : Option ByteArray) (W : World) (hR : RdO W g o) (hs : sizeO o ≤ 9223372036854775807) :
    Calls Tryz.prog 113 #[.pointer (some ⟨g, 0, none⟩), .int .i64 2] W fun e w' => e = .returned (.int .u64 (numO o 2 : Nat)) ∧ RdO w' g (restO o 2) ∧ Gr g W w' := number_o g 2 o W hR hs (by omega) (by omega)
theorem number_8 (g : Nat) (o : Option ByteArray) (W : World) (hR : RdO W g o) (hs : sizeO o ≤ 9223372036854775807) :
    Calls Tryz.prog 113 #[.pointer (some ⟨g, 0, none⟩), .int .i64 8] W fun e w' => e = .returned (.int .u64 (numO o 8 : Nat)) ∧ RdO w' g (restO o 8) ∧ Gr g W w' := number_o g 8 o W hR hs (by omega) (by omega)

set_option maxHeartbeats 400000 in
theorem rnum_any (g : Nat) (o : Option ByteArray) (W : World) (hR : RdO W g o) (hs : sizeO o ≤ 9223372036854775807) :
    Calls Tryz.prog 133 #[.pointer (some ⟨g, 0, none⟩)] W fun e w' => e = .returned (.int .i64 (numO o 2 : Nat)) ∧ RdO w' g (restO o 2) ∧ Gr g W w' := by
  have C := Lib.hid (number_2 g o W hR hs)
  have hl : numO o 2 < 65536 := numO_lt o 2
  clear hR hs
  generalize numO o 2 = v at *
  generalize restO o 2 = r at *
  go_enter Tryz.func133, Tryz.ntmps133
  go_wp2_with (go_at_call 113; ((with_reducible refine (C.out).mono ?_); rintro e w1 ⟨rfl, hR1, hgr⟩))
  have HR1 := Lib.hid hR1
  have Hgr := Lib.hid hgr
  clear hR1 hgr
  go_ret
  exact ⟨rfl, HR1.out, Hgr.out⟩
set_option maxHeartbeats 400000 in
theorem rwide_any (g : Nat) (o : Option ByteArray) (W : World) (hR : RdO W g o) (hs : sizeO o ≤ 9223372036854775807) :
    Calls Tryz.prog 111 #[.pointer (some ⟨g, 0, none⟩)] W fun e w' => e = .returned (.int .u64 (numO o 8 : Nat)) ∧ RdO w' g (restO o 8) ∧ Gr g W w' := by
  have C := Lib.hid (number_8 g o W hR hs)
  clear hR hs
  generalize numO o 8 = v at *
  generalize restO o 8 = r at *
  go_enter Tryz.func111, Tryz.ntmps111
  go_wp2_with (go_at_call 113; ((with_reducible refine (C.out).mono ?_); rintro e w1 ⟨rfl, hR1, hgr⟩))
  have HR1 := Lib.hid hR1
  have Hgr := Lib.hid hgr
  clear hR1 hgr
  go_ret
  exact ⟨rfl, HR1.out, Hgr.out⟩
/-- the text that it reads, and what is left -/
def textO (o : Option ByteArray) : ByteArray := partO (restO o 1) (numO o 1)
def restT (o : Option ByteArray) : Option ByteArray := restO (restO o 1) (numO o 1)
theorem sizeO_restT (o : Option ByteArray) : sizeO (restT o) ≤ sizeO o := Nat.le_trans (sizeO_rest _ _) (sizeO_rest _ _)
set_option maxHeartbeats 400000 in
theorem rtext_any (g : Nat) (o : Option ByteArray) (W : World) (hR : RdO W g o) (hs : sizeO o ≤ 9223372036854775807) :
    Calls Tryz.prog 123 #[.pointer (some ⟨g, 0, none⟩)] W fun e w' => e = .returned (.string (textO o)) ∧ RdO w' g (restT o) ∧ Gr g W w' := by
  have C := Lib.hid (number_1 g o W hR hs)
  have hl : numO o 1 < 256 := numO_lt o 1
  have D := Lib.hid (fun W1 h1 => part_o g (numO o 1) (restO o 1) W1 h1 (Nat.le_trans (sizeO_rest o 1) hs) (by omega))
  unfold textO restT
  clear hR hs
  generalize numO o 1 = v at *
  generalize restO o 1 = r at *
  go_enter Tryz.func123, Tryz.ntmps123
  go_wp2_with (go_at_call 113; ((with_reducible refine (C.out).mono ?_); rintro e w1 ⟨rfl, hR1, hgr⟩; have HR1 := Lib.hid hR1; have Hgr := Lib.hid hgr; clear hR1 hgr))
  refine (D.out _ HR1.out).mono ?_
  rintro e w2 ⟨A, m, c, rfl, hown, hR2, hgr2⟩
  have hstr := run_own_string (P := Tryz.prog) 91 9 hown Tryz.underlying91 Tryz.underlying5 Tryz.underlying9
  rw [txt_of] at hstr
  have HR2 := Lib.hid hR2
  have Hgr2 := Lib.hid hgr2
  clear hR2 hgr2 hown
  go_wp2
  go_ret
  exact ⟨rfl, HR2.out, Hgr.out.trans Hgr2.out⟩

set_option maxHeartbeats 400000 in
theorem rnum_nil (W : World) :
    Calls Tryz.prog 133 #[.pointer none] W fun e w' => e = .returned (.int .i64 0) ∧ W = w' := by
  have C : Hid (Calls Tryz.prog 113 #[.pointer none, .int .i64 2] W fun e w' => e = .returned (.int .u64 0) ∧ W = w') := number_nil 2 W
  go_enter Tryz.func133, Tryz.ntmps133
  go_wp2_with (go_at_call 113; ((with_reducible refine (C.out).mono ?_); rintro e w1 ⟨rfl, rfl⟩))
  go_ret
  exact ⟨rfl, rfl⟩
set_option maxHeartbeats 400000 in
theorem rwide_nil (W : World) :
    Calls Tryz.prog 111 #[.pointer none] W fun e w' => e = .returned (.int .u64 0) ∧ W = w' := by
  have C : Hid (Calls Tryz.prog 113 #[.pointer none, .int .i64 8] W fun e w' => e = .returned (.int .u64 0) ∧ W = w') := number_nil 8 W
  go_enter Tryz.func111, Tryz.ntmps111
  go_wp2_with (go_at_call 113; ((with_reducible refine (C.out).mono ?_); rintro e w1 ⟨rfl, rfl⟩))
  go_ret
  exact ⟨rfl, rfl⟩
set_option maxHeartbeats 400000 in
theorem rtext_nil (W : World) :
    Calls Tryz.prog 123 #[.pointer none] W fun e w' => e = .returned (.string ByteArray.empty) ∧ W = w' := by
  have ho : W.ownsRow W.heap.size 5 1 (.slice none 0 0) 0 (([] : List UInt8).map cell8) := World.ownsRow_nil _ _ _ _
  have hstr := run_own_string (P := Tryz.prog) 91 9 ho Tryz.underlying91 Tryz.underlying5 Tryz.underlying9
  clear ho
  have C : Hid (Calls Tryz.prog 113 #[.pointer none, .int .i64 1] W fun e w' => e = .returned (.int .u64 0) ∧ W = w') := number_nil 1 W
  go_enter Tryz.func123, Tryz.ntmps123
  go_wp2_with (first | (go_at_call 113; ((with_reducible refine (C.out).mono ?_); rintro e w1 ⟨rfl, rfl⟩)) | (go_at_call 115; ((with_reducible refine (part_nil _ _).mono ?_); rintro e w1 ⟨rfl, rfl⟩)))
  go_ret
  exact ⟨rfl, rfl⟩

end Go.Proofs.YtbnmddopgbhapaaGreat
