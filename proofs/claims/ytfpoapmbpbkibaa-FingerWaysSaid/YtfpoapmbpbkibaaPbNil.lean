/-
  The book of points: the kinds of which it keeps none. (Written by tools/genBookQ.py, out of the book of items.)
-/
import Derived.Test.YtfpoapmbpbkibaaPbBook
namespace Go.Proofs.Ytfpoapmbpbkibaa.Pb
open Go.RowKit Go.Proofs.Ytfpoapmbpbkibaa

set_option maxHeartbeats 400000 in
theorem stillTexts_nil (g : Nat) (W : World) (h : W.cell? ⟨g, 0, none⟩ = some (.slice none 0 0)) :
    Calls Try.prog 27 #[.pointer (some ⟨g, 0, none⟩)] W fun e w' => e = .returned (.bool true) ∧ W = w' := by
  go_enter Try.func27, Try.ntmps27
  go_wp2
  go_loopg [3] 1 (fun gh s3 wx => s3 = .int .i64 0 ∧ W = wx)
  case atStart => exact ⟨rfl, rfl⟩
  case round =>
    obtain ⟨rfl, rfl⟩ := hrel
    go_wp2
    go_ret
    exact ⟨rfl, rfl⟩
set_option maxHeartbeats 400000 in
theorem putTexts_nil (g : Nat) (W : World) (h : W.cell? ⟨g, 0, none⟩ = some (.slice none 0 0)) :
    Calls Try.prog 36 #[.pointer (some ⟨g, 0, none⟩)] W fun e w' => e = .returned (.tuple #[]) ∧ W = w' := by
  go_enter Try.func36, Try.ntmps36
  go_wp2
  go_loopg [2] 1 (fun gh s2 wx => s2 = .int .i64 0 ∧ W = wx)
  case atStart => exact ⟨rfl, rfl⟩
  case round =>
    obtain ⟨rfl, rfl⟩ := hrel
    go_wp2
    go_end0
    exact ⟨rfl, rfl⟩
set_option maxHeartbeats 400000 in
theorem growTexts_nil (g : Nat) (W : World) (h : W.cell? ⟨g, 0, none⟩ = some (.slice none 0 0)) :
    Calls Try.prog 41 #[.pointer (some ⟨g, 0, none⟩)] W fun e w' => e = .returned (.slice none 0 0) ∧ W = w' := by
  go_enter Try.func41, Try.ntmps41
  go_wp2
  go_loopg [3, 4] 1 (fun gh s3 s4 wx => s3 = .slice none 0 0 ∧ s4 = .int .i64 0 ∧ W = wx)
  case atStart => exact ⟨rfl, rfl, rfl⟩
  case round =>
    obtain ⟨rfl, rfl, rfl⟩ := hrel
    go_wp2
    go_ret
    exact ⟨rfl, rfl⟩
set_option maxHeartbeats 400000 in
theorem markedTexts_nil (W : World) :
    Calls Try.prog 48 #[.slice none 0 0] W fun e w' => e = .returned (.bool true) ∧ W = w' := by
  go_enter Try.func48, Try.ntmps48
  go_wp2
  go_loopg [3] 1 (fun gh s3 wx => s3 = .int .i64 0 ∧ W = wx)
  case atStart => exact ⟨rfl, rfl⟩
  case round =>
    obtain ⟨rfl, rfl⟩ := hrel
    go_wp2
    go_ret
    exact ⟨rfl, rfl⟩
set_option maxHeartbeats 400000 in
theorem stillInts_nil (g : Nat) (W : World) (h : W.cell? ⟨g, 2, none⟩ = some (.slice none 0 0)) :
    Calls Try.prog 28 #[.pointer (some ⟨g, 0, none⟩)] W fun e w' => e = .returned (.bool true) ∧ W = w' := by
  go_enter Try.func28, Try.ntmps28
  go_wp2
  go_loopg [3] 1 (fun gh s3 wx => s3 = .int .i64 0 ∧ W = wx)
  case atStart => exact ⟨rfl, rfl⟩
  case round =>
    obtain ⟨rfl, rfl⟩ := hrel
    go_wp2
    go_ret
    exact ⟨rfl, rfl⟩
set_option maxHeartbeats 400000 in
theorem putInts_nil (g : Nat) (W : World) (h : W.cell? ⟨g, 2, none⟩ = some (.slice none 0 0)) :
    Calls Try.prog 37 #[.pointer (some ⟨g, 0, none⟩)] W fun e w' => e = .returned (.tuple #[]) ∧ W = w' := by
  go_enter Try.func37, Try.ntmps37
  go_wp2
  go_loopg [2] 1 (fun gh s2 wx => s2 = .int .i64 0 ∧ W = wx)
  case atStart => exact ⟨rfl, rfl⟩
  case round =>
    obtain ⟨rfl, rfl⟩ := hrel
    go_wp2
    go_end0
    exact ⟨rfl, rfl⟩
set_option maxHeartbeats 400000 in
theorem growInts_nil (g : Nat) (W : World) (h : W.cell? ⟨g, 2, none⟩ = some (.slice none 0 0)) :
    Calls Try.prog 42 #[.pointer (some ⟨g, 0, none⟩)] W fun e w' => e = .returned (.slice none 0 0) ∧ W = w' := by
  go_enter Try.func42, Try.ntmps42
  go_wp2
  go_loopg [3, 4] 1 (fun gh s3 s4 wx => s3 = .slice none 0 0 ∧ s4 = .int .i64 0 ∧ W = wx)
  case atStart => exact ⟨rfl, rfl, rfl⟩
  case round =>
    obtain ⟨rfl, rfl, rfl⟩ := hrel
    go_wp2
    go_ret
    exact ⟨rfl, rfl⟩
set_option maxHeartbeats 400000 in
theorem markedInts_nil (W : World) :
    Calls Try.prog 49 #[.slice none 0 0] W fun e w' => e = .returned (.bool true) ∧ W = w' := by
  go_enter Try.func49, Try.ntmps49
  go_wp2
  go_loopg [3] 1 (fun gh s3 wx => s3 = .int .i64 0 ∧ W = wx)
  case atStart => exact ⟨rfl, rfl⟩
  case round =>
    obtain ⟨rfl, rfl⟩ := hrel
    go_wp2
    go_ret
    exact ⟨rfl, rfl⟩
set_option maxHeartbeats 400000 in
theorem stillItems_nil (g : Nat) (W : World) (h : W.cell? ⟨g, 6, none⟩ = some (.slice none 0 0)) :
    Calls Try.prog 30 #[.pointer (some ⟨g, 0, none⟩)] W fun e w' => e = .returned (.bool true) ∧ W = w' := by
  go_enter Try.func30, Try.ntmps30
  go_wp2
  go_loopg [3] 1 (fun gh s3 wx => s3 = .int .i64 0 ∧ W = wx)
  case atStart => exact ⟨rfl, rfl⟩
  case round =>
    obtain ⟨rfl, rfl⟩ := hrel
    go_wp2
    go_ret
    exact ⟨rfl, rfl⟩
set_option maxHeartbeats 400000 in
theorem putItems_nil (g : Nat) (W : World) (h : W.cell? ⟨g, 6, none⟩ = some (.slice none 0 0)) :
    Calls Try.prog 39 #[.pointer (some ⟨g, 0, none⟩)] W fun e w' => e = .returned (.tuple #[]) ∧ W = w' := by
  go_enter Try.func39, Try.ntmps39
  go_wp2
  go_loopg [2] 1 (fun gh s2 wx => s2 = .int .i64 0 ∧ W = wx)
  case atStart => exact ⟨rfl, rfl⟩
  case round =>
    obtain ⟨rfl, rfl⟩ := hrel
    go_wp2
    go_end0
    exact ⟨rfl, rfl⟩
set_option maxHeartbeats 400000 in
theorem growItems_nil (g : Nat) (W : World) (h : W.cell? ⟨g, 6, none⟩ = some (.slice none 0 0)) :
    Calls Try.prog 44 #[.pointer (some ⟨g, 0, none⟩)] W fun e w' => e = .returned (.slice none 0 0) ∧ W = w' := by
  go_enter Try.func44, Try.ntmps44
  go_wp2
  go_loopg [3, 4] 1 (fun gh s3 s4 wx => s3 = .slice none 0 0 ∧ s4 = .int .i64 0 ∧ W = wx)
  case atStart => exact ⟨rfl, rfl, rfl⟩
  case round =>
    obtain ⟨rfl, rfl, rfl⟩ := hrel
    go_wp2
    go_ret
    exact ⟨rfl, rfl⟩
set_option maxHeartbeats 400000 in
theorem markedItems_nil (W : World) :
    Calls Try.prog 51 #[.slice none 0 0] W fun e w' => e = .returned (.bool true) ∧ W = w' := by
  go_enter Try.func51, Try.ntmps51
  go_wp2
  go_loopg [3] 1 (fun gh s3 wx => s3 = .int .i64 0 ∧ W = wx)
  case atStart => exact ⟨rfl, rfl⟩
  case round =>
    obtain ⟨rfl, rfl⟩ := hrel
    go_wp2
    go_ret
    exact ⟨rfl, rfl⟩
set_option maxHeartbeats 400000 in
theorem stillOwneds_nil (g : Nat) (W : World) (h : W.cell? ⟨g, 8, none⟩ = some (.slice none 0 0)) :
    Calls Try.prog 31 #[.pointer (some ⟨g, 0, none⟩)] W fun e w' => e = .returned (.bool true) ∧ W = w' := by
  go_enter Try.func31, Try.ntmps31
  go_wp2
  go_loopg [3] 1 (fun gh s3 wx => s3 = .int .i64 0 ∧ W = wx)
  case atStart => exact ⟨rfl, rfl⟩
  case round =>
    obtain ⟨rfl, rfl⟩ := hrel
    go_wp2
    go_ret
    exact ⟨rfl, rfl⟩
set_option maxHeartbeats 400000 in
theorem putOwneds_nil (g : Nat) (W : World) (h : W.cell? ⟨g, 8, none⟩ = some (.slice none 0 0)) :
    Calls Try.prog 40 #[.pointer (some ⟨g, 0, none⟩)] W fun e w' => e = .returned (.tuple #[]) ∧ W = w' := by
  go_enter Try.func40, Try.ntmps40
  go_wp2
  go_loopg [2] 1 (fun gh s2 wx => s2 = .int .i64 0 ∧ W = wx)
  case atStart => exact ⟨rfl, rfl⟩
  case round =>
    obtain ⟨rfl, rfl⟩ := hrel
    go_wp2
    go_end0
    exact ⟨rfl, rfl⟩
set_option maxHeartbeats 400000 in
theorem growOwneds_nil (g : Nat) (W : World) (h : W.cell? ⟨g, 8, none⟩ = some (.slice none 0 0)) :
    Calls Try.prog 45 #[.pointer (some ⟨g, 0, none⟩)] W fun e w' => e = .returned (.slice none 0 0) ∧ W = w' := by
  go_enter Try.func45, Try.ntmps45
  go_wp2
  go_loopg [3, 4] 1 (fun gh s3 s4 wx => s3 = .slice none 0 0 ∧ s4 = .int .i64 0 ∧ W = wx)
  case atStart => exact ⟨rfl, rfl, rfl⟩
  case round =>
    obtain ⟨rfl, rfl, rfl⟩ := hrel
    go_wp2
    go_ret
    exact ⟨rfl, rfl⟩
set_option maxHeartbeats 400000 in
theorem markedOwneds_nil (W : World) :
    Calls Try.prog 52 #[.slice none 0 0] W fun e w' => e = .returned (.bool true) ∧ W = w' := by
  go_enter Try.func52, Try.ntmps52
  go_wp2
  go_loopg [3] 1 (fun gh s3 wx => s3 = .int .i64 0 ∧ W = wx)
  case atStart => exact ⟨rfl, rfl⟩
  case round =>
    obtain ⟨rfl, rfl⟩ := hrel
    go_wp2
    go_ret
    exact ⟨rfl, rfl⟩
set_option maxHeartbeats 400000 in
theorem stillEvents_nil (g : Nat) (W : World) (h : W.cell? ⟨g, 10, none⟩ = some (.slice none 0 0)) :
    Calls Try.prog 32 #[.pointer (some ⟨g, 0, none⟩)] W fun e w' => e = .returned (.bool true) ∧ W = w' := by
  go_enter Try.func32, Try.ntmps32
  go_wp2
  go_loopg [3] 1 (fun gh s3 wx => s3 = .int .i64 0 ∧ W = wx)
  case atStart => exact ⟨rfl, rfl⟩
  case round =>
    obtain ⟨rfl, rfl⟩ := hrel
    go_wp2
    go_ret
    exact ⟨rfl, rfl⟩
set_option maxHeartbeats 400000 in
theorem putEvents_nil (g : Nat) (W : World) (h : W.cell? ⟨g, 10, none⟩ = some (.slice none 0 0)) :
    Calls Try.prog 34 #[.pointer (some ⟨g, 0, none⟩)] W fun e w' => e = .returned (.tuple #[]) ∧ W = w' := by
  go_enter Try.func34, Try.ntmps34
  go_wp2
  go_loopg [2] 1 (fun gh s2 wx => s2 = .int .i64 0 ∧ W = wx)
  case atStart => exact ⟨rfl, rfl⟩
  case round =>
    obtain ⟨rfl, rfl⟩ := hrel
    go_wp2
    go_end0
    exact ⟨rfl, rfl⟩
set_option maxHeartbeats 400000 in
theorem growEvents_nil (g : Nat) (W : World) (h : W.cell? ⟨g, 10, none⟩ = some (.slice none 0 0)) :
    Calls Try.prog 46 #[.pointer (some ⟨g, 0, none⟩)] W fun e w' => e = .returned (.slice none 0 0) ∧ W = w' := by
  go_enter Try.func46, Try.ntmps46
  go_wp2
  go_loopg [3, 4] 1 (fun gh s3 s4 wx => s3 = .slice none 0 0 ∧ s4 = .int .i64 0 ∧ W = wx)
  case atStart => exact ⟨rfl, rfl, rfl⟩
  case round =>
    obtain ⟨rfl, rfl, rfl⟩ := hrel
    go_wp2
    go_ret
    exact ⟨rfl, rfl⟩
set_option maxHeartbeats 400000 in
theorem markedEvents_nil (W : World) :
    Calls Try.prog 53 #[.slice none 0 0] W fun e w' => e = .returned (.bool true) ∧ W = w' := by
  go_enter Try.func53, Try.ntmps53
  go_wp2
  go_loopg [3] 1 (fun gh s3 wx => s3 = .int .i64 0 ∧ W = wx)
  case atStart => exact ⟨rfl, rfl⟩
  case round =>
    obtain ⟨rfl, rfl⟩ := hrel
    go_wp2
    go_ret
    exact ⟨rfl, rfl⟩
set_option maxHeartbeats 400000 in
theorem stillLetters_nil (g : Nat) (W : World) (h : W.cell? ⟨g, 12, none⟩ = some (.slice none 0 0)) :
    Calls Try.prog 33 #[.pointer (some ⟨g, 0, none⟩)] W fun e w' => e = .returned (.bool true) ∧ W = w' := by
  go_enter Try.func33, Try.ntmps33
  go_wp2
  go_loopg [3] 1 (fun gh s3 wx => s3 = .int .i64 0 ∧ W = wx)
  case atStart => exact ⟨rfl, rfl⟩
  case round =>
    obtain ⟨rfl, rfl⟩ := hrel
    go_wp2
    go_ret
    exact ⟨rfl, rfl⟩
set_option maxHeartbeats 400000 in
theorem putLetters_nil (g : Nat) (W : World) (h : W.cell? ⟨g, 12, none⟩ = some (.slice none 0 0)) :
    Calls Try.prog 35 #[.pointer (some ⟨g, 0, none⟩)] W fun e w' => e = .returned (.tuple #[]) ∧ W = w' := by
  go_enter Try.func35, Try.ntmps35
  go_wp2
  go_loopg [2] 1 (fun gh s2 wx => s2 = .int .i64 0 ∧ W = wx)
  case atStart => exact ⟨rfl, rfl⟩
  case round =>
    obtain ⟨rfl, rfl⟩ := hrel
    go_wp2
    go_end0
    exact ⟨rfl, rfl⟩
set_option maxHeartbeats 400000 in
theorem growLetters_nil (g : Nat) (W : World) (h : W.cell? ⟨g, 12, none⟩ = some (.slice none 0 0)) :
    Calls Try.prog 47 #[.pointer (some ⟨g, 0, none⟩)] W fun e w' => e = .returned (.slice none 0 0) ∧ W = w' := by
  go_enter Try.func47, Try.ntmps47
  go_wp2
  go_loopg [3, 4] 1 (fun gh s3 s4 wx => s3 = .slice none 0 0 ∧ s4 = .int .i64 0 ∧ W = wx)
  case atStart => exact ⟨rfl, rfl, rfl⟩
  case round =>
    obtain ⟨rfl, rfl, rfl⟩ := hrel
    go_wp2
    go_ret
    exact ⟨rfl, rfl⟩
set_option maxHeartbeats 400000 in
theorem markedLetters_nil (W : World) :
    Calls Try.prog 54 #[.slice none 0 0] W fun e w' => e = .returned (.bool true) ∧ W = w' := by
  go_enter Try.func54, Try.ntmps54
  go_wp2
  go_loopg [3] 1 (fun gh s3 wx => s3 = .int .i64 0 ∧ W = wx)
  case atStart => exact ⟨rfl, rfl⟩
  case round =>
    obtain ⟨rfl, rfl⟩ := hrel
    go_wp2
    go_ret
    exact ⟨rfl, rfl⟩
end Go.Proofs.Ytfpoapmbpbkibaa.Pb
