/-
  The walks of package pack's writing: big, Num, Text, Wide, and of the document's own Num and Text.
-/
import Derived.Test.YtbnmddopgbhapaaGreatKeyFirst
import Derived.Test.YtbnmddopgbhapaaGreatPackPlain
namespace Go.Proofs.YtbnmddopgbhapaaGreat
open Go.RowKit

theorem cell_shift (x e : Nat) : Value.int .u8 ((x : Int) / 2 ^ (8 * e) % 256) = cell8 (UInt8.ofNat (x / 256 ^ e)) := by
  have h : (x : Int) / 2 ^ (8 * e) % 256 = ((x / 256 ^ e % 256 : Nat) : Int) := by
    rw [← pow_shift]; simp
  rw [h]
  unfold cell8
  simp

set_option maxHeartbeats 400000 in
theorem big_any (x n : Nat) (w : World) (_hx : x < 18446744073709551616) (_h0 : 1 ≤ n) (h8 : n ≤ 8) :
    Calls Tryz.prog 114 #[.int .u64 x, .int .i64 n] w fun e w' => e = .returned (.string (txt (wideN n x))) ∧ Below w.heap.size w w' := by
  have hmk := run_make_bytes n (by omega) w
  have hown0 := own_zcells n (by omega) w
  rw [← wrote_zero n x] at hown0
  go_enter Tryz.func114, Tryz.ntmps114
  go_wp2
  clear hmk
  go_loopg [11] 9 (fun g s11 wx => ∃ (k : Nat), k + g = 9 ∧ k ≤ n ∧ s11 = .int .i64 k ∧ wx.ownsRow w.heap.size 5 1 (.slice (some ⟨w.heap.size, 0, none⟩) n n) n ((wrote n x k).map cell8) ∧ Below w.heap.size w wx)
  case atStart => exact ⟨0, by omega, by omega, rfl, hown0, (Below.refl _ _).alloc (Nat.le_refl _) _⟩
  case round =>
    obtain ⟨k, hkg, hk, rfl, hown, hbel⟩ := hrel
    by_cases hlt : k < n
    · have hlen := wrote_length n x k hk
      have hc := hown.cellAt k (by omega)
      have hf := hown.frozenAt k
      obtain ⟨d, hd⟩ : ∃ d : UInt8, (wrote n x k)[k]? = some d := ⟨_, List.getElem?_eq_getElem (by omega)⟩
      rw [List.getElem?_map, hd] at hc
      have hst := hown.stored k (cell8 (UInt8.ofNat (x / 256 ^ (n - 1 - k))))
      rw [← List.map_set, wrote_set n x k hlt] at hst
      have HL := Lib.hid hlen
      clear hlen hd
      go_wp2
      go_roundg (gk - 1)
      case measure => omega
      case rel => exact ⟨k + 1, by omega, by omega, by go_num, by rw [cell_shift]; exact hst.1, hbel.setCell (Nat.le_refl _) _⟩
    · obtain rfl : k = n := by omega
      rw [wrote_all] at hown
      have hstr := run_own_string (P := Tryz.prog) 91 9 hown Tryz.underlying91 Tryz.underlying5 Tryz.underlying9
      have HB := Lib.hid hbel
      clear hbel hown
      go_wp2
      go_ret
      exact ⟨rfl, HB.out⟩

theorem big_1 (x : Nat) (w : World) (hx : x < 18446744073709551616) :
    Calls Tryz.prog 114 #[.int .u64 x, .int .i64 1] w fun e w' => e = .returned (.string (txt (wideN 1 x))) ∧ Below w.heap.size w w' := big_any x 1 w hx (by omega) (by omega)
theorem big_2 (x : Nat) (w : World) (hx : x < 18446744073709551616) :
    Calls Tryz.prog 114 #[.int .u64 x, .int .i64 2] w fun e w' => e = .returned (.string (txt (wideN 2 x))) ∧ Below w.heap.size w w' := big_any x 2 w hx (by omega) (by omega)
theorem big_8 (x : Nat) (w : World) (hx : x < 18446744073709551616) :
    Calls Tryz.prog 114 #[.int .u64 x, .int .i64 8] w fun e w' => e = .returned (.string (txt (wideN 8 x))) ∧ Below w.heap.size w w' := big_any x 8 w hx (by omega) (by omega)

set_option maxHeartbeats 400000 in
theorem wide_any (x : Nat) (w : World) (hx : x < 18446744073709551616) :
    Calls Tryz.prog 112 #[.int .u64 x] w fun e w' => e = .returned (.string (txt (wideN 8 x))) ∧ Below w.heap.size w w' := by
  have C := Lib.hid fun W => big_8 x W hx
  clear hx
  go_enter Tryz.func112, Tryz.ntmps112
  go_wp2_with (go_at_call 114; ((with_reducible refine (C.out _).mono ?_); rintro e w1 ⟨rfl, hb1⟩))
  go_ret
  exact ⟨rfl, hb1⟩

/-- may the number be written? -/
def okNum (v : Int) : Bool := decide (0 ≤ v) && decide (v ≤ 65535)
/-- a number's bytes, or none -/
def numT (v : Int) : ByteArray := if okNum v then txt (wideN 2 v.toNat) else ByteArray.empty

set_option maxHeartbeats 400000 in
theorem num_any (v : Int) (w : World) (h0 : -9223372036854775808 ≤ v) (h1 : v ≤ 9223372036854775807) :
    Calls Tryz.prog 128 #[.int .i64 v] w fun e w' => e = .returned (.tuple #[.string (numT v), .bool (okNum v)]) ∧ Below w.heap.size w w' := by
  by_cases hn : v < 0
  · have e : okNum v = false := by simp [okNum]; omega
    rw [numT, e]
    go_enter Tryz.func128, Tryz.ntmps128
    go_wp2
    go_ret2
    exact ⟨rfl, Below.refl _ _⟩
  · obtain ⟨x, rfl⟩ := Int.eq_ofNat_of_zero_le (show 0 ≤ v by omega)
    by_cases hb : 65535 < x
    · have e : okNum (x : Int) = false := by simp [okNum]; omega
      rw [numT, e]
      go_enter Tryz.func128, Tryz.ntmps128
      go_wp2
      go_ret2
      exact ⟨rfl, Below.refl _ _⟩
    · have e : okNum (x : Int) = true := by simp [okNum]; omega
      have C := Lib.hid fun W => big_2 x W (by omega)
      rw [numT, e, if_pos rfl, Int.toNat_natCast]
      go_enter Tryz.func128, Tryz.ntmps128
      go_wp2_with (go_at_call 114; ((with_reducible refine (C.out _).mono ?_); rintro e w1 ⟨rfl, hb1⟩))
      go_ret2
      exact ⟨rfl, hb1⟩

/-- may the text be written? -/
def okText (s : ByteArray) : Bool := decide (s.size ≤ 255)
/-- a text's bytes, or none -/
def textT (s : ByteArray) : ByteArray := if okText s then txt (wideN 1 s.size) ++ s else ByteArray.empty

set_option maxHeartbeats 400000 in
theorem text_any (s : ByteArray) (w : World) (hs : s.size ≤ 9223372036854775807) :
    Calls Tryz.prog 124 #[.string s] w fun e w' => e = .returned (.tuple #[.string (textT s), .bool (okText s)]) ∧ Below w.heap.size w w' := by
  by_cases hb : 255 < s.size
  · have e : okText s = false := by simp [okText]; omega
    rw [textT, e]
    go_enter Tryz.func124, Tryz.ntmps124
    go_wp2
    go_ret2
    exact ⟨rfl, Below.refl _ _⟩
  · have e : okText s = true := by simp [okText]; omega
    have C := Lib.hid fun W => big_1 s.size W (by omega)
    rw [textT, e, if_pos rfl]
    have hp : (txt (wideN 1 s.size)).size ≤ 1 := by rw [txt_size, wideN_length]; exact Nat.le_refl _
    generalize txt (wideN 1 s.size) = p at *
    go_enter Tryz.func124, Tryz.ntmps124
    go_wp2_with (go_at_call 114; ((with_reducible refine (C.out _).mono ?_); rintro e w1 ⟨rfl, hb1⟩))
    go_ret2
    exact ⟨rfl, hb1⟩

/-- 'string' of a row that the walk has just laid -/
theorem run_conv_lit (l : List UInt8) (W : World) (n : Nat) (hn : n = l.length) (hl : l.length ≤ 100000) (C : Array Value) (hC : C = (l.map cell8).toArray) :
    (convert 91 9 (.slice (some ⟨W.heap.size, 0, none⟩) n n)).run Tryz.prog (W.alloc (.cells C 5)) = .ok (.string (txt l)) (W.alloc (.cells C 5)) := by
  subst hn hC
  have h := World.ownsRow_lit W (l.map cell8).toArray (e := 5) (size := 1) (base := W.heap.size) l.length (Nat.le_refl _) (by unfold maxLen; omega) (by simp)
  rw [List.toList_toArray] at h
  exact run_own_string (P := Tryz.prog) 91 9 h Tryz.underlying91 Tryz.underlying5 Tryz.underlying9
theorem wide1 (x : Nat) (hx : x ≤ 255) : #[Value.int .u8 (x : Int)] = ((wideN 1 x).map cell8).toArray := by
  simp [wideN, cell8]; omega
theorem wide2 (x : Nat) (hx : x ≤ 65535) : #[Value.int .u8 ((x : Int) / 256), Value.int .u8 ((x : Int) % 256)] = ((wideN 2 x).map cell8).toArray := by
  simp [wideN, cell8]; omega

set_option maxHeartbeats 400000 in
theorem refNum_any (x : Nat) (w : World) (hx : x ≤ 65535) :
    Calls Tryz.prog 24 #[.int .i64 (x : Nat)] w fun e w' => e = .returned (.string (txt (wideN 2 x))) ∧ Below w.heap.size w w' := by
  have hcv := run_conv_lit (wideN 2 x) w 2 (by rw [wideN_length]) (by rw [wideN_length]; omega) _ (wide2 x hx)
  go_enter Tryz.func24, Tryz.ntmps24
  go_wp2
  go_ret
  exact ⟨rfl, (Below.refl _ _).alloc (Nat.le_refl _) _⟩
set_option maxHeartbeats 400000 in
theorem refText_any (s : ByteArray) (w : World) (hs : s.size ≤ 255) :
    Calls Tryz.prog 27 #[.string s] w fun e w' => e = .returned (.string (textT s)) ∧ Below w.heap.size w w' := by
  have hcv := run_conv_lit (wideN 1 s.size) w 1 (by rw [wideN_length]) (by rw [wideN_length]; omega) _ (wide1 s.size hs)
  have e : okText s = true := by simp [okText]; omega
  rw [textT, e, if_pos rfl]
  have hp : (txt (wideN 1 s.size)).size ≤ 1 := by rw [txt_size, wideN_length]; exact Nat.le_refl _
  generalize txt (wideN 1 s.size) = p at *
  go_enter Tryz.func27, Tryz.ntmps27
  go_wp2
  go_ret
  exact ⟨rfl, (Below.refl _ _).alloc (Nat.le_refl _) _⟩
end Go.Proofs.YtbnmddopgbhapaaGreat
