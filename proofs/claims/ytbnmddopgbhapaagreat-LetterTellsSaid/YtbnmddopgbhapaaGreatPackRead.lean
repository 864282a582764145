/-
  The walks of package pack's Reader: Bad, End, part, number, Num, Text, Wide.
-/
import Derived.Test.YtbnmddopgbhapaaGreatPackWrite
import Derived.Test.YtbnmddopgbhapaaGreatPackKeep
namespace Go.Proofs.YtbnmddopgbhapaaGreat
open Go.RowKit

set_option maxHeartbeats 400000 in
theorem bad_any (g : Nat) (s : ByteArray) (b : Bool) (W : World) (hR : Rq W g s b) :
    Calls Tryz.prog 86 #[.pointer (some ⟨g, 0, none⟩)] W fun e w' => e = .returned (.bool (!b)) ∧ W = w' := by
  obtain ⟨h1, h2, h3, h4, h5⟩ := hR
  go_enter Tryz.func86, Tryz.ntmps86
  go_wp2
  go_ret
  exact ⟨rfl, rfl⟩
set_option maxHeartbeats 400000 in
theorem bad_nil (W : World) :
    Calls Tryz.prog 86 #[.pointer none] W fun e w' => e = .returned (.bool true) ∧ W = w' := by
  go_enter Tryz.func86, Tryz.ntmps86
  go_wp2
  go_ret
  exact ⟨rfl, rfl⟩
/-- is it the empty text? -/
def noneB (s : ByteArray) : Bool := s.toList.isEmpty
theorem noneB_size (s : ByteArray) : noneB s = decide (s.size = 0) := by
  rw [← toList_length, noneB, Bool.eq_iff_iff]; simp
set_option maxHeartbeats 400000 in
theorem end_any (g : Nat) (s : ByteArray) (b : Bool) (W : World) (hR : Rq W g s b) :
    Calls Tryz.prog 67 #[.pointer (some ⟨g, 0, none⟩)] W fun e w' => e = .returned (.bool (b && noneB s)) ∧ W = w' := by
  have C := Lib.hid (bad_any g s b W hR)
  obtain ⟨h1, h2, h3, h4, h5⟩ := hR
  cases b
  · go_enter Tryz.func67, Tryz.ntmps67
    go_wp2_with (go_at_call 86; ((with_reducible refine (C.out).mono ?_); rintro e w1 ⟨rfl, rfl⟩))
    go_ret
    exact ⟨rfl, rfl⟩
  · cases hn : s.toList.isEmpty
    · have e : (true && noneB s) = false := by rw [noneB, hn]; rfl
      rw [e]
      go_enter Tryz.func67, Tryz.ntmps67
      go_wp2_with (go_at_call 86; ((with_reducible refine (C.out).mono ?_); rintro e w1 ⟨rfl, rfl⟩))
      go_ret
      exact ⟨rfl, rfl⟩
    · have e : (true && noneB s) = true := by rw [noneB, hn]; rfl
      rw [e]
      have hz : s.toList = [] := List.isEmpty_iff.1 hn
      clear hn
      go_enter Tryz.func67, Tryz.ntmps67
      go_wp2_with (go_at_call 86; ((with_reducible refine (C.out).mono ?_); rintro e w1 ⟨rfl, rfl⟩))
      go_ret
      exact ⟨rfl, rfl⟩
set_option maxHeartbeats 400000 in
theorem end_nil (W : World) :
    Calls Tryz.prog 67 #[.pointer none] W fun e w' => e = .returned (.bool false) ∧ W = w' := by
  go_enter Tryz.func67, Tryz.ntmps67
  go_wp2_with (go_at_call 86; ((with_reducible refine (bad_nil _).mono ?_); rintro e w1 ⟨rfl, rfl⟩))
  go_ret
  exact ⟨rfl, rfl⟩
set_option maxHeartbeats 400000 in
theorem from_any (s : ByteArray) (W : World) :
    Calls Tryz.prog 65 #[.string s] W fun e w' => e = .returned (.pointer (some ⟨W.heap.size, 0, none⟩)) ∧ Below W.heap.size W w' ∧ Rq w' W.heap.size s true := by
  go_enter Tryz.func65, Tryz.ntmps65
  go_wp2
  go_ret
  exact ⟨rfl, (Below.refl _ _).alloc (Nat.le_refl _) _, Rq.new _ _ _ _⟩

/-- 'make' of no elements and room for n -/
theorem run_make_room (n : Nat) (hn : n ≤ 100000) (W : World) :
    (Instr.makeSlice 91 (.int .i64 0) (.int .i64 (n : Int))).run Tryz.prog W = .ok (.slice (some ⟨W.heap.size, 0, none⟩) 0 n) (W.alloc (.cells (zcells n) 5)) := by
  obtain ⟨i, hi, hz, h1, h2⟩ := infoByte
  have hr := run_make (P := Tryz.prog) W 91 5 i (.int .u8 0) Tryz.underlying91 hi hz .i64 .i64 0 (n : Int) (Int.le_refl _) (by omega) (by rw [h2]; omega) (by omega)
  simp only [Int.toNat_natCast, h1, Int.toNat_zero] at hr
  exact hr
theorem own_room (n : Nat) (hn : n ≤ 100000) (W : World) : (W.alloc (.cells (zcells n) 5)).ownsRow W.heap.size 5 1 (.slice (some ⟨W.heap.size, 0, none⟩) 0 n) 0 [] :=
  ⟨rfl, .inr ⟨W.heap.size, n, zcells n, rfl, Nat.le_refl _, heap_alloc_new W _, Nat.zero_le _, by unfold maxLen; omega, size_madeCells _ _, by simp⟩⟩
theorem take_cell (s : ByteArray) (k : Nat) (h : k < s.size) : (s.data.toList.take k).map cell8 ++ [Value.int .u8 (s[k].toNat : Int)] = (s.data.toList.take (k + 1)).map cell8 := by
  rw [List.take_add_one, get_data s k h, List.map_append]
  rfl
/-- the part that was read -/
def PartIs (W : World) (g : Nat) (s : ByteArray) (n : Nat) (e : Ending) (w' : World) : Prop :=
  ∃ (A : Option Addr) (c : Nat), e = .returned (.slice A n c) ∧ w'.ownsRow W.heap.size 5 1 (.slice A n c) n ((s.data.toList.take n).map cell8) ∧ Rq w' g (s.extract n s.size) true ∧ Gr g W w'

set_option maxHeartbeats 1000000 in
theorem part_some (g n : Nat) (s : ByteArray) (W : World) (hR : Rq W g s true) (hs : s.size ≤ 9223372036854775807) (hn : n ≤ s.size) (h1 : n ≤ 100000) :
    Calls Tryz.prog 115 #[.pointer (some ⟨g, 0, none⟩), .int .i64 (n : Nat)] W (PartIs W g s n) := by
  have C := Lib.hid (bad_any g s true W hR)
  obtain ⟨i0, hi, hz0, hz1, hz2⟩ := infoByte
  have hgW := hR.1
  have hmk := run_make_room n h1 W
  have hown0 := own_room n h1 W
  have HR0 := Lib.hid (hR.alloc (.cells (zcells n) 5))
  clear hR
  go_enter Tryz.func115, Tryz.ntmps115
  go_wp2
  go_step3
  go_wp2_with (go_at_call 86; ((with_reducible refine (C.out).mono ?_); rintro e w1 ⟨rfl, rfl⟩))
  clear hmk
  go_step3
  go_wp2
  go_loopg [5] (n + 1) (fun gh s5 wx => ∃ (k : Nat) (A : Option Addr) (c : Nat), k + gh = n + 1 ∧ k ≤ n ∧ s5 = .slice A k c ∧ wx.ownsRow W.heap.size 5 1 (.slice A k c) k ((s.data.toList.take k).map cell8) ∧ Hid (Rq wx g s true) ∧ Gr g W wx)
  case atStart => exact ⟨0, _, _, by omega, by omega, rfl, hown0, HR0, (Gr.refl _ _).alloc _⟩
  case round =>
    obtain ⟨k, A, c, hkg, hk, rfl, hown, HR, hgr⟩ := hrel
    obtain ⟨q1, q2, q3, q4, q5⟩ := HR.out
    by_cases hlt : k < n
    · have b1 : ((k : Int) == (n : Int)) = false := by rw [beq_eq_false_iff_ne]; omega
      have b2 : ((k : Int) == (s.size : Int)) = false := by rw [beq_eq_false_iff_ne]; omega
      have hks : k < s.size := by omega
      go_wp2_with (at_builtin; go_must (refine wpList_append_own _ rfl _ _ 91 rfl W.heap.size 5 i0 (.int .u8 0) 1 1 Tryz.underlying91 hi hz0 hz1 hz2 rfl (by decide) _ _ _ rfl (hown.alloc _) ⟨wr.heap.size, 0, none⟩ 1 1 [.int .u8 (s[k].toNat : Int)] rfl rfl (cell_one_new _ _ _) (fun x hx => by simp at hx; subst hx; rfl) (by unfold maxLen; omega) (by omega) (by have := hgr.size; simp; omega) ?_); intro v' w1 hown' hgrow hnil)
      go_roundg (gk - 1)
      case measure => omega
      case rel =>
        rw [take_cell s k hks] at hown'
        obtain ⟨A', c', rfl⟩ := own_slice hown'
        exact ⟨k + 1, A', c', by omega, by omega, rfl, hown', (HR.out.alloc _).grown hgrow (fun q hq => by have := own_lt hown q hq; omega), (hgr.alloc _).grown hgrow (own_lt hown)⟩
    · obtain rfl : k = n := by omega
      have b1 : ((k : Int) == (k : Int)) = true := by rw [beq_iff_eq]
      go_wp2
      rw [Exit.noGoto_ret]
      go_ret
      exact ⟨A, c, rfl, own_other hown ((Gr.refl g wr).set 0 _) hgW, HR.out.set0 _, hgr.set 0 _⟩

/-- nothing was read, and nothing is left -/
def PartNot (W : World) (g : Nat) (e : Ending) (w' : World) : Prop :=
  e = .returned (.slice none 0 0) ∧ Rq w' g ByteArray.empty false ∧ Gr g W w'

set_option maxHeartbeats 1000000 in
theorem part_short (g n : Nat) (s : ByteArray) (W : World) (hR : Rq W g s true) (hs : s.size ≤ 9223372036854775807) (hn : s.size < n) (h1 : n ≤ 100000) :
    Calls Tryz.prog 115 #[.pointer (some ⟨g, 0, none⟩), .int .i64 (n : Nat)] W (PartNot W g) := by
  have C := Lib.hid (bad_any g s true W hR)
  obtain ⟨i0, hi, hz0, hz1, hz2⟩ := infoByte
  have hgW := hR.1
  have hmk := run_make_room n h1 W
  have hown0 := own_room n h1 W
  have HR0 := Lib.hid (hR.alloc (.cells (zcells n) 5))
  clear hR
  go_enter Tryz.func115, Tryz.ntmps115
  go_wp2
  go_step3
  go_wp2_with (go_at_call 86; ((with_reducible refine (C.out).mono ?_); rintro e w1 ⟨rfl, rfl⟩))
  clear hmk
  go_step3
  go_wp2
  go_loopg [5] (n + 1) (fun gh s5 wx => ∃ (k : Nat) (A : Option Addr) (c : Nat), k + gh = n + 1 ∧ k ≤ s.size ∧ s5 = .slice A k c ∧ wx.ownsRow W.heap.size 5 1 (.slice A k c) k ((s.data.toList.take k).map cell8) ∧ Hid (Rq wx g s true) ∧ Gr g W wx)
  case atStart => exact ⟨0, _, _, by omega, by omega, rfl, hown0, HR0, (Gr.refl _ _).alloc _⟩
  case round =>
    obtain ⟨k, A, c, hkg, hk, rfl, hown, HR, hgr⟩ := hrel
    obtain ⟨q1, q2, q3, q4, q5⟩ := HR.out
    have b1 : ((k : Int) == (n : Int)) = false := by rw [beq_eq_false_iff_ne]; omega
    by_cases hlt : k < s.size
    · have b2 : ((k : Int) == (s.size : Int)) = false := by rw [beq_eq_false_iff_ne]; omega
      go_wp2_with (at_builtin; go_must (refine wpList_append_own _ rfl _ _ 91 rfl W.heap.size 5 i0 (.int .u8 0) 1 1 Tryz.underlying91 hi hz0 hz1 hz2 rfl (by decide) _ _ _ rfl (hown.alloc _) ⟨wr.heap.size, 0, none⟩ 1 1 [.int .u8 (s[k].toNat : Int)] rfl rfl (cell_one_new _ _ _) (fun x hx => by simp at hx; subst hx; rfl) (by unfold maxLen; omega) (by omega) (by have := hgr.size; simp; omega) ?_); intro v' w1 hown' hgrow hnil)
      go_roundg (gk - 1)
      case measure => omega
      case rel =>
        rw [take_cell s k hlt] at hown'
        obtain ⟨A', c', rfl⟩ := own_slice hown'
        exact ⟨k + 1, A', c', by omega, by omega, rfl, hown', (HR.out.alloc _).grown hgrow (fun q hq => by have := own_lt hown q hq; omega), (hgr.alloc _).grown hgrow (own_lt hown)⟩
    · have e : k = s.size := by omega
      have b2 : ((k : Int) == (s.size : Int)) = true := by rw [beq_iff_eq]; omega
      clear hlt e
      go_wp2
      rw [Exit.noGoto_ret]
      go_ret
      exact ⟨rfl, (HR.out.set0 _).set1 _, (hgr.set 0 _).set 1 _⟩

set_option maxHeartbeats 400000 in
theorem part_bad (g : Nat) (n : Int) (s : ByteArray) (W : World) (hR : Rq W g s false) :
    Calls Tryz.prog 115 #[.pointer (some ⟨g, 0, none⟩), .int .i64 n] W fun e w' => e = .returned (.slice none 0 0) ∧ W = w' := by
  have C := Lib.hid (bad_any g s false W hR)
  clear hR
  go_enter Tryz.func115, Tryz.ntmps115
  go_wp2
  go_step3
  go_wp2_with (go_at_call 86; ((with_reducible refine (C.out).mono ?_); rintro e w1 ⟨rfl, rfl⟩))
  rw [Exit.noGoto_ret]
  go_ret
  exact ⟨rfl, rfl⟩
set_option maxHeartbeats 400000 in
theorem part_nil (n : Int) (W : World) :
    Calls Tryz.prog 115 #[.pointer none, .int .i64 n] W fun e w' => e = .returned (.slice none 0 0) ∧ W = w' := by
  go_enter Tryz.func115, Tryz.ntmps115
  go_wp2
  go_step3
  go_wp2_with (go_at_call 86; ((with_reducible refine (bad_nil _).mono ?_); rintro e w1 ⟨rfl, rfl⟩))
  rw [Exit.noGoto_ret]
  go_ret
  exact ⟨rfl, rfl⟩

end Go.Proofs.YtbnmddopgbhapaaGreat
